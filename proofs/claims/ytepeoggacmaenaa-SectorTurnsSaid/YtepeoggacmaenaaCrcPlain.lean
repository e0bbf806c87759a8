/- Plain mathematics of sums of bytes: the register's step is linear and loses nothing; what is sealed is told by one residue; a burst within four bytes turns it. Nothing of the program. -/
import Init.Data.List.Lemmas
import Init.Data.Nat.Bitwise.Lemmas
set_option linter.unusedVariables false
set_option linter.unusedSimpArgs false
namespace Go.Proofs.Ytepeoggacmaenaa

/-- One bit. -/
def stp (c : Nat) : Nat := if c % 2 = 1 then c / 2 ^^^ 2197175160 else c / 2

theorem xor_mod2 (a b : Nat) : (a ^^^ b) % 2 = (a % 2 + b % 2) % 2 := by
  have h := Nat.xor_mod_two_pow (a := a) (b := b) (n := 1)
  simp only [Nat.pow_one] at h
  rw [h]
  have ha : a % 2 = 0 ∨ a % 2 = 1 := by omega
  have hb : b % 2 = 0 ∨ b % 2 = 1 := by omega
  rcases ha with ha | ha <;> rcases hb with hb | hb <;> rw [ha, hb] <;> decide
theorem xor_div2 (a b : Nat) : (a ^^^ b) / 2 = a / 2 ^^^ b / 2 := by
  have h := Nat.xor_div_two_pow (a := a) (b := b) (n := 1)
  simpa using h

theorem stp_xor (a b : Nat) : stp (a ^^^ b) = stp a ^^^ stp b := by
  have hx := xor_mod2 a b
  have hd := xor_div2 a b
  unfold stp
  have ha : a % 2 = 0 ∨ a % 2 = 1 := by omega
  have hb : b % 2 = 0 ∨ b % 2 = 1 := by omega
  rcases ha with ha | ha <;> rcases hb with hb | hb <;> rw [ha, hb] at hx <;> rw [hx, hd, ha, hb]
  · simp
  · simp [Nat.xor_assoc]
  · simp
    rw [Nat.xor_assoc, Nat.xor_assoc, Nat.xor_comm (b / 2)]
  · simp only [Nat.reduceAdd, Nat.reduceMod, if_true]
    rw [if_neg (by omega), ← Nat.xor_assoc, Nat.xor_comm (a / 2) 2197175160, Nat.xor_assoc 2197175160, Nat.xor_comm 2197175160, Nat.xor_assoc, Nat.xor_self, Nat.xor_zero]

theorem stp_lt (a : Nat) (h : a < 4294967296) : stp a < 4294967296 := by
  unfold stp
  split
  · exact Nat.xor_lt_two_pow (n := 32) (by omega) (by decide)
  · omega

/-- The step loses nothing. -/
theorem stp_zero (a : Nat) (h : a < 4294967296) (hz : stp a = 0) : a = 0 := by
  unfold stp at hz
  split at hz
  · have e : a / 2 = 2197175160 := by
      have := congrArg (· ^^^ 2197175160) hz
      simpa [Nat.xor_assoc] using this
    omega
  · omega

/-- So many bits. -/
def stps : Nat → Nat → Nat
  | 0, c => c
  | n + 1, c => stps n (stp c)
theorem stps_add (m n c : Nat) : stps (m + n) c = stps n (stps m c) := by
  induction m generalizing c with
  | zero => simp [stps]
  | succ m ih => rw [show m + 1 + n = (m + n) + 1 by omega]; exact ih _
theorem stps_xor (n a b : Nat) : stps n (a ^^^ b) = stps n a ^^^ stps n b := by
  induction n generalizing a b with
  | zero => rfl
  | succ n ih => simp only [stps]; rw [stp_xor, ih]
theorem stps_lt (n a : Nat) (h : a < 4294967296) : stps n a < 4294967296 := by
  induction n generalizing a with
  | zero => exact h
  | succ n ih => exact ih _ (stp_lt a h)
theorem stps_zero (n a : Nat) (h : a < 4294967296) (hz : stps n a = 0) : a = 0 := by
  induction n generalizing a with
  | zero => exact hz
  | succ n ih => exact stp_zero a h (ih _ (stp_lt a h) hz)
theorem stps_of_zero (n : Nat) : stps n 0 = 0 := by
  induction n with
  | zero => rfl
  | succ n ih => exact ih
theorem stps_even (n : Nat) : ∀ y, stps n (y * 2 ^ n) = y := by
  induction n with
  | zero => intro y; simp [stps]
  | succ n ih =>
    intro y
    have e : stp (y * 2 ^ (n + 1)) = y * 2 ^ n := by
      unfold stp
      rw [Nat.pow_succ, ← Nat.mul_assoc, if_neg (by omega)]
      omega
    simp only [stps]
    rw [e, ih]
theorem stps_inj (n a b : Nat) (ha : a < 4294967296) (hb : b < 4294967296) (h : stps n a = stps n b) : a = b := by
  have hx : stps n (a ^^^ b) = 0 := by rw [stps_xor, h, Nat.xor_self]
  have h0 := stps_zero n _ (Nat.xor_lt_two_pow (n := 32) ha hb) hx
  have := congrArg (· ^^^ b) h0
  simpa [Nat.xor_assoc] using this

/-- One byte; bytes. -/
def byteStep (c : Nat) (b : UInt8) : Nat := stps 8 (c ^^^ b.toNat)
def raw (c : Nat) (l : List UInt8) : Nat := l.foldl byteStep c
theorem raw_append (c : Nat) (a b : List UInt8) : raw c (a ++ b) = raw (raw c a) b := List.foldl_append
theorem byte_lt32 (b : UInt8) : b.toNat < 4294967296 := by have := b.toNat_lt; omega
theorem byteStep_lt (c : Nat) (b : UInt8) (h : c < 4294967296) : byteStep c b < 4294967296 := stps_lt 8 _ (Nat.xor_lt_two_pow (n := 32) h (byte_lt32 b))
theorem raw_lt (c : Nat) (l : List UInt8) (h : c < 4294967296) : raw c l < 4294967296 := by
  induction l generalizing c with
  | nil => exact h
  | cons b l ih => exact ih _ (byteStep_lt c b h)

/-- The sum of bytes of that sum, with l behind. -/
def moreL (s : Nat) (l : List UInt8) : Nat := raw (s ^^^ 4294967295) l ^^^ 4294967295
def sumL (l : List UInt8) : Nat := moreL 0 l
theorem xor_twice (a b : Nat) : (a ^^^ b) ^^^ b = a := by rw [Nat.xor_assoc, Nat.xor_self, Nat.xor_zero]
theorem sum_more (a b : List UInt8) : moreL (sumL a) b = sumL (a ++ b) := by
  unfold sumL moreL
  rw [xor_twice, raw_append]
theorem moreL_lt (s : Nat) (l : List UInt8) (h : s < 4294967296) : moreL s l < 4294967296 :=
  Nat.xor_lt_two_pow (n := 32) (raw_lt _ _ (Nat.xor_lt_two_pow (n := 32) h (by decide))) (by decide)
theorem sumL_lt (l : List UInt8) : sumL l < 4294967296 := moreL_lt 0 l (by decide)

/-- What stands in an odd number of two texts. -/
def xorL : List UInt8 → List UInt8 → List UInt8
  | a :: as, b :: bs => (a ^^^ b) :: xorL as bs
  | _, _ => []
theorem xorL_length : ∀ (a b : List UInt8), a.length = b.length → (xorL a b).length = a.length := by
  intro a
  induction a with
  | nil => intro b h; cases b <;> simp_all [xorL]
  | cons x a ih =>
    intro b h
    cases b with
    | nil => simp at h
    | cons y b => simp only [xorL, List.length_cons]; rw [ih b (by simpa using h)]
theorem raw_xor : ∀ (a b : List UInt8) (c d : Nat), a.length = b.length → raw (c ^^^ d) (xorL a b) = raw c a ^^^ raw d b := by
  intro a
  induction a with
  | nil => intro b c d h; cases b <;> simp_all [xorL, raw]
  | cons x a ih =>
    intro b c d h
    cases b with
    | nil => simp at h
    | cons y b =>
      have e : byteStep (c ^^^ d) (x ^^^ y) = byteStep c x ^^^ byteStep d y := by
        unfold byteStep
        rw [← stps_xor, UInt8.toNat_xor]
        congr 1
        rw [Nat.xor_assoc, Nat.xor_assoc, ← Nat.xor_assoc d, Nat.xor_comm d, Nat.xor_assoc x.toNat]
      show raw (byteStep (c ^^^ d) (x ^^^ y)) (xorL a b) = raw (byteStep c x) a ^^^ raw (byteStep d y) b
      rw [e]
      exact ih b _ _ (by simpa using h)

/-- Of three texts of one length. -/
theorem sum_odd (a b c : List UInt8) (h1 : b.length = a.length) (h2 : c.length = a.length) : sumL (xorL (xorL a b) c) = sumL a ^^^ sumL b ^^^ sumL c := by
  unfold sumL moreL
  simp only [Nat.zero_xor]
  have e : (4294967295 : Nat) = (4294967295 ^^^ 4294967295) ^^^ 4294967295 := by decide
  have h : raw 4294967295 (xorL (xorL a b) c) = (raw 4294967295 a ^^^ raw 4294967295 b) ^^^ raw 4294967295 c := by
    conv => lhs; rw [e]
    rw [raw_xor _ _ _ _ (by rw [xorL_length _ _ h1.symm]; exact h2.symm), raw_xor _ _ _ _ h1.symm]
  rw [h]
  generalize raw 4294967295 a = x
  generalize raw 4294967295 b = y
  generalize raw 4294967295 c = z
  rw [Nat.xor_assoc (x ^^^ 4294967295), Nat.xor_assoc (x ^^^ y), Nat.xor_assoc x, Nat.xor_assoc x]
  congr 1
  rw [Nat.xor_comm 4294967295 ((y ^^^ 4294967295) ^^^ _), Nat.xor_assoc (y ^^^ 4294967295), xor_twice z, Nat.xor_assoc y, Nat.xor_comm 4294967295 z]

/-- Four bytes, the lowest first. -/
def le4 (n : Nat) : List UInt8 := [UInt8.ofNat (n % 256), UInt8.ofNat (n / 256 % 256), UInt8.ofNat (n / 65536 % 256), UInt8.ofNat (n / 16777216)]

theorem add_xor (x y k : Nat) (h : x < 2 ^ k) : x ^^^ y * 2 ^ k = x + y * 2 ^ k := by
  apply Nat.eq_of_testBit_eq
  intro j
  rw [Nat.testBit_xor, Nat.add_comm, Nat.mul_comm y, Nat.testBit_two_pow_mul_add y h j, Nat.testBit_two_pow_mul]
  by_cases hj : j < k
  · simp [hj, Nat.not_le.2 hj]
  · have hx : x.testBit j = false := Nat.testBit_lt_two_pow (Nat.lt_of_lt_of_le h (Nat.pow_le_pow_right (by omega) (by omega)))
    simp [hj, hx, Nat.not_lt.1 hj]

/-- Four bytes as one number. -/
def word (a b c d : UInt8) : Nat := ((a.toNat ^^^ b.toNat * 2 ^ 8) ^^^ c.toNat * 2 ^ 16) ^^^ d.toNat * 2 ^ 24
theorem word_add (a b c d : UInt8) : word a b c d = a.toNat + b.toNat * 256 + c.toNat * 65536 + d.toNat * 16777216 := by
  have ha := a.toNat_lt
  have hb := b.toNat_lt
  have hc := c.toNat_lt
  unfold word
  rw [add_xor _ _ 8 (by omega), add_xor _ _ 16 (by omega), add_xor _ _ 24 (by omega)]
theorem word_lt (a b c d : UInt8) : word a b c d < 4294967296 := by
  have ha := a.toNat_lt
  have hb := b.toNat_lt
  have hc := c.toNat_lt
  have hd := d.toNat_lt
  rw [word_add]; omega
theorem word_zero (a b c d : UInt8) (h : word a b c d = 0) : a = 0 ∧ b = 0 ∧ c = 0 ∧ d = 0 := by
  rw [word_add] at h
  have z : ∀ x : UInt8, x.toNat = 0 → x = 0 := fun x hx => by
    have := congrArg UInt8.ofNat hx
    simpa using this
  exact ⟨z _ (by omega), z _ (by omega), z _ (by omega), z _ (by omega)⟩
theorem raw_word (x : Nat) (a b c d : UInt8) : raw x [a, b, c, d] = stps 32 (x ^^^ word a b c d) := by
  have hb := stps_even 8 b.toNat
  have hc := stps_even 16 c.toNat
  have hd := stps_even 24 d.toNat
  show byteStep (byteStep (byteStep (byteStep x a) b) c) d = _
  unfold byteStep word
  have e1 : stps 8 (x ^^^ a.toNat) ^^^ b.toNat = stps 8 (x ^^^ a.toNat ^^^ b.toNat * 2 ^ 8) := by rw [stps_xor 8 (x ^^^ a.toNat), hb]
  rw [e1, ← stps_add 8 8]
  have e2 : stps 16 (x ^^^ a.toNat ^^^ b.toNat * 2 ^ 8) ^^^ c.toNat = stps 16 (x ^^^ a.toNat ^^^ b.toNat * 2 ^ 8 ^^^ c.toNat * 2 ^ 16) := by rw [stps_xor 16 (x ^^^ a.toNat ^^^ b.toNat * 2 ^ 8), hc]
  rw [show 8 + 8 = 16 from rfl, e2, ← stps_add 16 8]
  have e3 : stps 24 (x ^^^ a.toNat ^^^ b.toNat * 2 ^ 8 ^^^ c.toNat * 2 ^ 16) ^^^ d.toNat = stps 24 (x ^^^ a.toNat ^^^ b.toNat * 2 ^ 8 ^^^ c.toNat * 2 ^ 16 ^^^ d.toNat * 2 ^ 24) := by rw [stps_xor 24 (x ^^^ a.toNat ^^^ b.toNat * 2 ^ 8 ^^^ c.toNat * 2 ^ 16), hd]
  rw [show 16 + 8 = 24 from rfl, e3, ← stps_add 24 8]
  simp only [Nat.xor_assoc]

theorem word_le4 (n : Nat) (h : n < 4294967296) : word (UInt8.ofNat (n % 256)) (UInt8.ofNat (n / 256 % 256)) (UInt8.ofNat (n / 65536 % 256)) (UInt8.ofNat (n / 16777216)) = n := by
  have e : ∀ k, k < 256 → (UInt8.ofNat k).toNat = k := fun k hk => by simp [UInt8.toNat_ofNat', Nat.mod_eq_of_lt hk]
  rw [word_add, e _ (by omega), e _ (by omega), e _ (by omega), e _ (by omega)]
  omega

/-- Sealed bytes. -/
def sealL (l : List UInt8) : List UInt8 := l ++ le4 (sumL l)
theorem sealL_length (l : List UInt8) : (sealL l).length = l.length + 4 := by simp [sealL, le4]
/-- What was sealed. -/
def openL (l : List UInt8) : Option (List UInt8) := if 4 ≤ l.length ∧ sealL (l.take (l.length - 4)) = l then some (l.take (l.length - 4)) else none
theorem open_seal (l : List UInt8) : openL (sealL l) = some l := by
  have e : (sealL l).take ((sealL l).length - 4) = l := by
    rw [sealL_length, Nat.add_sub_cancel]; simp [sealL]
  unfold openL
  rw [e, if_pos ⟨by rw [sealL_length]; omega, rfl⟩]

/-- The residue of what is sealed. -/
theorem raw_seal (l : List UInt8) : raw 4294967295 (sealL l) = stps 32 4294967295 := by
  unfold sealL le4
  rw [raw_append, raw_word, word_le4 _ (sumL_lt l)]
  have e : sumL l = raw 4294967295 l ^^^ 4294967295 := by unfold sumL moreL; rw [Nat.zero_xor]
  rw [e, ← Nat.xor_assoc, Nat.xor_self, Nat.zero_xor]

theorem raw_zeros (m c : Nat) (h : c < 4294967296) : raw c (List.replicate m 0) = 0 → c = 0 := by
  induction m generalizing c with
  | zero => intro h; exact h
  | succ m ih =>
    intro h0
    have e : raw c (List.replicate (m + 1) 0) = raw (byteStep c 0) (List.replicate m 0) := rfl
    rw [e] at h0
    have h1 := ih _ (byteStep_lt c 0 h) h0
    unfold byteStep at h1
    have h2 := stps_zero 8 _ (Nat.xor_lt_two_pow (n := 32) h (by decide)) h1
    simpa using h2
theorem raw_of_zeros (m : Nat) : raw 0 (List.replicate m 0) = 0 := by
  induction m with
  | zero => rfl
  | succ m ih =>
    have e : raw 0 (List.replicate (m + 1) 0) = raw (byteStep 0 0) (List.replicate m 0) := rfl
    rw [e, show byteStep 0 0 = 0 by unfold byteStep; simpa using stps_of_zero 8]
    exact ih

/-- A burst of four bytes in zeros. -/
def burst (p m : Nat) (a b c d : UInt8) : List UInt8 := List.replicate p 0 ++ ([a, b, c, d] ++ List.replicate m 0)
theorem raw_burst (p m : Nat) (a b c d : UInt8) (h : raw 0 (burst p m a b c d) = 0) : a = 0 ∧ b = 0 ∧ c = 0 ∧ d = 0 := by
  unfold burst at h
  rw [raw_append, raw_append, raw_of_zeros, raw_word, Nat.zero_xor] at h
  have h1 := raw_zeros m _ (stps_lt 32 _ (word_lt a b c d)) h
  exact word_zero a b c d (stps_zero 32 _ (word_lt a b c d) h1)

/-- Sealed bytes of which some within four in a row are turned are not sealed. -/
theorem turned (l : List UInt8) (p m : Nat) (a b c d : UInt8) (hl : (sealL l).length = (burst p m a b c d).length) (hne : ¬ (a = 0 ∧ b = 0 ∧ c = 0 ∧ d = 0)) :
    openL (xorL (sealL l) (burst p m a b c d)) = none := by
  unfold openL
  split
  · rename_i h
    exfalso
    obtain ⟨_, hs⟩ := h
    have h1 : raw 4294967295 (xorL (sealL l) (burst p m a b c d)) = stps 32 4294967295 := by
      rw [← hs]; exact raw_seal _
    have h2 : raw 4294967295 (xorL (sealL l) (burst p m a b c d)) = raw 4294967295 (sealL l) ^^^ raw 0 (burst p m a b c d) := by
      have := raw_xor (sealL l) (burst p m a b c d) 4294967295 0 hl
      rwa [Nat.xor_zero] at this
    rw [h1, raw_seal] at h2
    have h3 : raw 0 (burst p m a b c d) = 0 := by
      have := congrArg (stps 32 4294967295 ^^^ ·) h2
      simp only [Nat.xor_self, ← Nat.xor_assoc, Nat.zero_xor] at this
      exact this.symm
    exact hne (raw_burst p m a b c d h3)
  · rfl

end Go.Proofs.Ytepeoggacmaenaa
