/- Plain mathematics of sets of numbers as words of 64 bits: how many bits are set, the least one, one turned. Nothing of the program. -/
import Derived.Test.YtibaaideleinhaaDoorBitsPlain
import Derived.Lib.TrailingZeros
set_option linter.unusedVariables false
namespace Go.Proofs.YtibaaideleinhaaDoor

/-- How many of the k lowest bits are set. -/
def pop (x : Nat) : Nat → Nat
  | 0 => 0
  | k + 1 => pop x k + (if x.testBit k then 1 else 0)
theorem pop_le (x : Nat) : ∀ k, pop x k ≤ k
  | 0 => Nat.le_refl _
  | k + 1 => by
    have := pop_le x k
    rw [pop]
    split <;> omega
theorem pop_add (x a : Nat) : ∀ b, pop x (a + b) = pop x a + pop (x / 2 ^ a) b
  | 0 => by simp [pop]
  | b + 1 => by
    rw [← Nat.add_assoc, pop, pop, pop_add x a b, Nat.testBit_div_two_pow, Nat.add_comm b a, Nat.add_assoc]
theorem pop_same (x y : Nat) : ∀ k, (∀ i, i < k → x.testBit i = y.testBit i) → pop x k = pop y k
  | 0, _ => rfl
  | k + 1, h => by rw [pop, pop, pop_same x y k (fun i hi => h i (by omega)), h k (by omega)]
theorem pop_mod (x k : Nat) : pop (x % 2 ^ k) k = pop x k := pop_same _ _ _ fun i hi => by rw [Nat.testBit_mod_two_pow]; simp [hi]

/-- Bytes, the lowest one first, as a number. -/
def ofB : List Nat → Nat
  | [] => 0
  | b :: l => b + 256 * ofB l
/-- A byte so many times. -/
def repB (m : Nat) : Nat → Nat
  | 0 => 0
  | k + 1 => m + 256 * repB m k
def byteG1 (b : Nat) : Nat := (b / 2 &&& 85) + (b &&& 85)
def byteG2 (b : Nat) : Nat := (b / 4 &&& 51) + (b &&& 51)
def byteG3 (b : Nat) : Nat := (b / 16 + b) &&& 15
theorem and_byte (x m c : Nat) (hm : m < 256) : x &&& (m + 256 * c) = (x % 256 &&& m) + 256 * (x / 256 &&& c) := by
  have h1 : (x &&& (m + 256 * c)) % 256 = x % 256 &&& m := by
    have := @Nat.and_mod_two_pow x (m + 256 * c) 8
    rw [show (2 : Nat) ^ 8 = 256 from rfl] at this
    rw [this, show (m + 256 * c) % 256 = m by omega]
  have h2 : (x &&& (m + 256 * c)) / 256 = x / 256 &&& c := by
    have := @Nat.and_div_two_pow x (m + 256 * c) 8
    rw [show (2 : Nat) ^ 8 = 256 from rfl] at this
    rw [this, show (m + 256 * c) / 256 = c by omega]
  rw [← h1, ← h2]
  omega
theorem byteB1 : ∀ b, b < 256 → ∀ e, e < 2 → (b / 2 + 128 * e) &&& 85 = b / 2 &&& 85 := by decide +kernel
theorem byteB2 : ∀ b, b < 256 → ∀ e, e < 4 → (b / 4 + 64 * e) &&& 51 = b / 4 &&& 51 := by decide +kernel
theorem byteB3 : ∀ b, b < 69 → ∀ e, e < 5 → (b / 16 + b + 16 * e) &&& 15 = (b / 16 + b) &&& 15 := by decide +kernel
theorem byteB4 : ∀ b, b < 256 → byteG1 b < 256 ∧ byteG2 (byteG1 b) < 69 ∧ byteG2 (byteG1 b) % 16 < 5 ∧ byteG3 (byteG2 (byteG1 b)) = pop b 8 := by decide +kernel
theorem wordS1 : ∀ bs : List Nat, (∀ b ∈ bs, b < 256) → (ofB bs / 2 &&& repB 85 bs.length) + (ofB bs &&& repB 85 bs.length) = ofB (bs.map byteG1)
  | [], _ => by simp [ofB, repB]
  | b :: l, h => by
    have hb := h b (by simp)
    have ih := wordS1 l (fun x hx => h x (by simp [hx]))
    rw [List.length_cons, List.map_cons, repB, ofB, ofB, and_byte _ _ _ (by omega), and_byte _ _ _ (by omega), ← ih]
    have e1 : (b + 256 * ofB l) / 2 % 256 = b / 2 + 128 * (ofB l % 2) := by omega
    have e2 : (b + 256 * ofB l) / 2 / 256 = ofB l / 2 := by omega
    have e3 : (b + 256 * ofB l) % 256 = b := by omega
    have e4 : (b + 256 * ofB l) / 256 = ofB l := by omega
    rw [e1, e2, e3, e4, byteB1 b hb _ (by omega), byteG1]
    omega
theorem wordS2 : ∀ bs : List Nat, (∀ b ∈ bs, b < 256) → (ofB bs / 4 &&& repB 51 bs.length) + (ofB bs &&& repB 51 bs.length) = ofB (bs.map byteG2)
  | [], _ => by simp [ofB, repB]
  | b :: l, h => by
    have hb := h b (by simp)
    have ih := wordS2 l (fun x hx => h x (by simp [hx]))
    rw [List.length_cons, List.map_cons, repB, ofB, ofB, and_byte _ _ _ (by omega), and_byte _ _ _ (by omega), ← ih]
    have e1 : (b + 256 * ofB l) / 4 % 256 = b / 4 + 64 * (ofB l % 4) := by omega
    have e2 : (b + 256 * ofB l) / 4 / 256 = ofB l / 4 := by omega
    have e3 : (b + 256 * ofB l) % 256 = b := by omega
    have e4 : (b + 256 * ofB l) / 256 = ofB l := by omega
    rw [e1, e2, e3, e4, byteB2 b hb _ (by omega), byteG2]
    omega
theorem ofB_low : ∀ bs : List Nat, (∀ b ∈ bs, b < 69 ∧ b % 16 < 5) → ofB bs % 16 < 5
  | [], _ => by simp [ofB]
  | b :: l, h => by
    have := (h b (by simp)).2
    rw [ofB]; omega
theorem wordS3 : ∀ bs : List Nat, (∀ b ∈ bs, b < 69 ∧ b % 16 < 5) → ((ofB bs / 16 + ofB bs) &&& repB 15 bs.length) = ofB (bs.map byteG3)
  | [], _ => by simp [ofB, repB]
  | b :: l, h => by
    have hb := h b (by simp)
    have hl := ofB_low l (fun x hx => h x (by simp [hx]))
    have ih := wordS3 l (fun x hx => h x (by simp [hx]))
    rw [List.length_cons, List.map_cons, repB, ofB, ofB, and_byte _ _ _ (by omega), ← ih]
    have e1 : ((b + 256 * ofB l) / 16 + (b + 256 * ofB l)) % 256 = b / 16 + b + 16 * (ofB l % 16) := by omega
    have e2 : ((b + 256 * ofB l) / 16 + (b + 256 * ofB l)) / 256 = ofB l / 16 + ofB l := by omega
    rw [e1, e2, byteB3 b hb.1 _ hl, byteG3]
theorem ofB_le (m : Nat) : ∀ bs : List Nat, (∀ b ∈ bs, b ≤ m) → ofB bs ≤ m * repB 1 bs.length
  | [], _ => by simp [ofB]
  | b :: l, h => by
    have h1 := h b (by simp)
    have h2 := ofB_le m l (fun x hx => h x (by simp [hx]))
    rw [List.length_cons, repB, ofB, Nat.mul_add, Nat.mul_left_comm]
    omega
theorem byteB_step (x : Nat) (l : List Nat) (h : x / 256 = ofB l) : x = ofB ((x % 256) :: l) := by
  rw [ofB, ← h]; omega
/-- The eight bytes of a word. -/
theorem bytesB8 (x : Nat) (h : x < 18446744073709551616) : x = ofB [x % 256, x / 2 ^ 8 % 256, x / 2 ^ 16 % 256, x / 2 ^ 24 % 256, x / 2 ^ 32 % 256, x / 2 ^ 40 % 256, x / 2 ^ 48 % 256, x / 2 ^ 56 % 256] := by
  have e : ∀ k, x / 2 ^ (k + 8) = x / 2 ^ k / 256 := fun k => by rw [Nat.pow_add, Nat.div_div_eq_div_mul]
  have h7 : x / 2 ^ 56 = ofB [x / 2 ^ 56 % 256] := by simp only [ofB]; omega
  have h6 : x / 2 ^ 48 = ofB [x / 2 ^ 48 % 256, x / 2 ^ 56 % 256] := byteB_step _ _ ((e 48).symm.trans h7)
  have h5 : x / 2 ^ 40 = ofB [x / 2 ^ 40 % 256, x / 2 ^ 48 % 256, x / 2 ^ 56 % 256] := byteB_step _ _ ((e 40).symm.trans h6)
  have h4 : x / 2 ^ 32 = ofB [x / 2 ^ 32 % 256, x / 2 ^ 40 % 256, x / 2 ^ 48 % 256, x / 2 ^ 56 % 256] := byteB_step _ _ ((e 32).symm.trans h5)
  have h3 : x / 2 ^ 24 = ofB [x / 2 ^ 24 % 256, x / 2 ^ 32 % 256, x / 2 ^ 40 % 256, x / 2 ^ 48 % 256, x / 2 ^ 56 % 256] := byteB_step _ _ ((e 24).symm.trans h4)
  have h2 : x / 2 ^ 16 = ofB [x / 2 ^ 16 % 256, x / 2 ^ 24 % 256, x / 2 ^ 32 % 256, x / 2 ^ 40 % 256, x / 2 ^ 48 % 256, x / 2 ^ 56 % 256] := byteB_step _ _ ((e 16).symm.trans h3)
  have h1 : x / 2 ^ 8 = ofB [x / 2 ^ 8 % 256, x / 2 ^ 16 % 256, x / 2 ^ 24 % 256, x / 2 ^ 32 % 256, x / 2 ^ 40 % 256, x / 2 ^ 48 % 256, x / 2 ^ 56 % 256] := byteB_step _ _ ((e 8).symm.trans h2)
  exact byteB_step _ _ h1
theorem popB8 (x : Nat) : pop x 64 = pop (x % 256) 8 + pop (x / 2 ^ 8 % 256) 8 + pop (x / 2 ^ 16 % 256) 8 + pop (x / 2 ^ 24 % 256) 8 + pop (x / 2 ^ 32 % 256) 8 + pop (x / 2 ^ 40 % 256) 8 + pop (x / 2 ^ 48 % 256) 8 + pop (x / 2 ^ 56 % 256) 8 := by
  have e : ∀ y, pop (y % 256) 8 = pop y 8 := fun y => pop_mod y 8
  rw [e, e, e, e, e, e, e, e]
  rw [show 64 = 56 + 8 from rfl, pop_add, show 56 = 48 + 8 from rfl, pop_add, show 48 = 40 + 8 from rfl, pop_add, show 40 = 32 + 8 from rfl, pop_add, show 32 = 24 + 8 from rfl, pop_add, show 24 = 16 + 8 from rfl, pop_add, show 16 = 8 + 8 from rfl, pop_add]
theorem repB85 : repB 85 8 = 6148914691236517205 := by decide +kernel
theorem repB51 : repB 51 8 = 3689348814741910323 := by decide +kernel
theorem repB15 : repB 15 8 = 1085102592571150095 := by decide +kernel
theorem repB1 : repB 1 8 = 72340172838076673 := by decide +kernel
theorem lenB8 (a b c d e f g h : Nat) : [a, b, c, d, e, f, g, h].length = 8 := rfl
/-- How many bits of a word are set, as the library reckons it. -/
theorem divB_step (a m x : Nat) (h : a < m) : (a + m * x) / m = x := by
  rw [Nat.add_mul_div_left _ _ (by omega), Nat.div_eq_of_lt h, Nat.zero_add]
theorem sumB8 (p0 p1 p2 p3 p4 p5 p6 p7 y3 y4 y5 y6 : Nat) (l0 : p0 ≤ 8) (l1 : p1 ≤ 8) (l2 : p2 ≤ 8) (l3 : p3 ≤ 8) (l4 : p4 ≤ 8) (l5 : p5 ≤ 8) (l6 : p6 ≤ 8) (l7 : p7 ≤ 8)
    (h3 : y3 = p0 + 256 * (p1 + 256 * (p2 + 256 * (p3 + 256 * (p4 + 256 * (p5 + 256 * (p6 + 256 * p7))))))) (h4 : y4 = y3 + y3 / 256) (h5 : y5 = y4 + y4 / 65536) (h6 : y6 = y5 + y5 / 4294967296) :
    y3 < 18446744073709551616 ∧ y4 < 18446744073709551616 ∧ y5 < 18446744073709551616 ∧ y6 < 9223372036854775808 ∧ y6 % 128 = p0 + p1 + p2 + p3 + p4 + p5 + p6 + p7 := by
  have z3 : y3 ≤ 8 * 72340172838076673 := by rw [h3]; clear h3 h4 h5 h6; omega
  have a4 : y3 / 256 = p1 + 256 * (p2 + 256 * (p3 + 256 * (p4 + 256 * (p5 + 256 * (p6 + 256 * p7))))) := by rw [h3]; exact divB_step _ _ _ (by omega)
  have z4 : y4 ≤ 16 * 72340172838076673 := by clear a4 h3 h5 h6; omega
  have e4 : y4 = ((p0 + p1) + 256 * (p1 + p2)) + 65536 * ((p2 + p3) + 256 * ((p3 + p4) + 256 * ((p4 + p5) + 256 * ((p5 + p6) + 256 * ((p6 + p7) + 256 * p7))))) := by
    rw [h4, a4, h3]; clear h3 h4 h5 h6 a4 z3 z4 l0 l1 l2 l3 l4 l5 l6 l7; omega
  have z5 : y5 ≤ 17 * 72340172838076673 := by clear a4 h3 h4 h6 e4 z3; omega
  have a5 : y4 / 65536 = (p2 + p3) + 256 * ((p3 + p4) + 256 * ((p4 + p5) + 256 * ((p5 + p6) + 256 * ((p6 + p7) + 256 * p7)))) := by rw [e4]; exact divB_step _ _ _ (by clear e4 h3 h4 h5 h6 a4 z3 z4 z5; omega)
  have e5 : y5 = ((p0 + p1 + p2 + p3) + 256 * (p1 + p2 + p3 + p4) + 65536 * (p2 + p3 + p4 + p5) + 16777216 * (p3 + p4 + p5 + p6)) + 4294967296 * ((p4 + p5 + p6 + p7) + 256 * ((p5 + p6 + p7) + 256 * ((p6 + p7) + 256 * p7))) := by
    rw [h5, a5, e4]; clear h3 h4 h5 h6 a4 a5 e4 z3 z4 z5 l0 l1 l2 l3 l4 l5 l6 l7; omega
  have z6 : y6 ≤ 18 * 72340172838076673 := by clear a4 a5 h3 h4 h5 e4 e5 z3 z4; omega
  have a6 : y5 / 4294967296 = (p4 + p5 + p6 + p7) + 256 * ((p5 + p6 + p7) + 256 * ((p6 + p7) + 256 * p7)) := by rw [e5]; exact divB_step _ _ _ (by clear e4 e5 h3 h4 h5 h6 a4 a5 z3 z4 z5 z6; omega)
  have e6 : y6 = (p0 + p1 + p2 + p3 + p4 + p5 + p6 + p7) + 128 * (2 * ((p1 + p2 + p3 + p4 + p5 + p6 + p7) + 256 * (p2 + p3 + p4 + p5 + p6 + p7) + 65536 * (p3 + p4 + p5 + p6 + p7)) + 33554432 * ((p4 + p5 + p6 + p7) + 256 * ((p5 + p6 + p7) + 256 * ((p6 + p7) + 256 * p7)))) := by
    rw [h6, a6, e5]; clear h3 h4 h5 h6 a4 a5 a6 e4 e5 z3 z4 z5 z6 l0 l1 l2 l3 l4 l5 l6 l7; omega
  refine ⟨by omega, by omega, by omega, by omega, ?_⟩
  rw [e6, Nat.add_mul_mod_self_left]
  clear h3 h4 h5 h6 a4 a5 a6 e4 e5 e6 z3 z4 z5 z6
  exact Nat.mod_eq_of_lt (by omega)
theorem ones_word (x y1 y2 y3 y4 y5 y6 : Nat) (h : x < 18446744073709551616) (h1 : y1 = (x / 2 &&& 6148914691236517205) + (x &&& 6148914691236517205)) (h2 : y2 = (y1 / 4 &&& 3689348814741910323) + (y1 &&& 3689348814741910323))
    (h3 : y3 = (y2 / 16 + y2) &&& 1085102592571150095) (h4 : y4 = y3 + y3 / 256) (h5 : y5 = y4 + y4 / 65536) (h6 : y6 = y5 + y5 / 4294967296) :
    y1 < 18446744073709551616 ∧ y2 < 18446744073709551616 ∧ y2 / 16 + y2 < 18446744073709551616 ∧ y3 < 18446744073709551616 ∧ y4 < 18446744073709551616 ∧ y5 < 18446744073709551616 ∧ y6 < 9223372036854775808 ∧ y6 % 128 = pop x 64 := by
  have hx := bytesB8 x h
  have hp := popB8 x
  generalize hc0 : x % 256 = c0 at hx hp
  generalize hc1 : x / 2 ^ 8 % 256 = c1 at hx hp
  generalize hc2 : x / 2 ^ 16 % 256 = c2 at hx hp
  generalize hc3 : x / 2 ^ 24 % 256 = c3 at hx hp
  generalize hc4 : x / 2 ^ 32 % 256 = c4 at hx hp
  generalize hc5 : x / 2 ^ 40 % 256 = c5 at hx hp
  generalize hc6 : x / 2 ^ 48 % 256 = c6 at hx hp
  generalize hc7 : x / 2 ^ 56 % 256 = c7 at hx hp
  have k0 : c0 < 256 := by rw [← hc0]; exact Nat.mod_lt _ (by decide)
  have q0 := byteB4 c0 k0
  have k1 : c1 < 256 := by rw [← hc1]; exact Nat.mod_lt _ (by decide)
  have q1 := byteB4 c1 k1
  have k2 : c2 < 256 := by rw [← hc2]; exact Nat.mod_lt _ (by decide)
  have q2 := byteB4 c2 k2
  have k3 : c3 < 256 := by rw [← hc3]; exact Nat.mod_lt _ (by decide)
  have q3 := byteB4 c3 k3
  have k4 : c4 < 256 := by rw [← hc4]; exact Nat.mod_lt _ (by decide)
  have q4 := byteB4 c4 k4
  have k5 : c5 < 256 := by rw [← hc5]; exact Nat.mod_lt _ (by decide)
  have q5 := byteB4 c5 k5
  have k6 : c6 < 256 := by rw [← hc6]; exact Nat.mod_lt _ (by decide)
  have q6 := byteB4 c6 k6
  have k7 : c7 < 256 := by rw [← hc7]; exact Nat.mod_lt _ (by decide)
  have q7 := byteB4 c7 k7
  have w1 := wordS1 [c0, c1, c2, c3, c4, c5, c6, c7] (by
    intro b hb
    simp only [List.mem_cons, List.not_mem_nil, or_false] at hb
    rcases hb with rfl | rfl | rfl | rfl | rfl | rfl | rfl | rfl
    · exact k0
    · exact k1
    · exact k2
    · exact k3
    · exact k4
    · exact k5
    · exact k6
    · exact k7)
  rw [lenB8, repB85, ← hx, ← h1] at w1
  have w2 := wordS2 [byteG1 c0, byteG1 c1, byteG1 c2, byteG1 c3, byteG1 c4, byteG1 c5, byteG1 c6, byteG1 c7] (by
    intro b hb
    simp only [List.mem_cons, List.not_mem_nil, or_false] at hb
    rcases hb with rfl | rfl | rfl | rfl | rfl | rfl | rfl | rfl
    · exact q0.1
    · exact q1.1
    · exact q2.1
    · exact q3.1
    · exact q4.1
    · exact q5.1
    · exact q6.1
    · exact q7.1)
  simp only [List.map_cons, List.map_nil] at w1 w2
  rw [lenB8, repB51, ← w1, ← h2] at w2
  have w3 := wordS3 [byteG2 (byteG1 c0), byteG2 (byteG1 c1), byteG2 (byteG1 c2), byteG2 (byteG1 c3), byteG2 (byteG1 c4), byteG2 (byteG1 c5), byteG2 (byteG1 c6), byteG2 (byteG1 c7)] (by
    intro b hb
    simp only [List.mem_cons, List.not_mem_nil, or_false] at hb
    rcases hb with rfl | rfl | rfl | rfl | rfl | rfl | rfl | rfl
    · exact ⟨q0.2.1, q0.2.2.1⟩
    · exact ⟨q1.2.1, q1.2.2.1⟩
    · exact ⟨q2.2.1, q2.2.2.1⟩
    · exact ⟨q3.2.1, q3.2.2.1⟩
    · exact ⟨q4.2.1, q4.2.2.1⟩
    · exact ⟨q5.2.1, q5.2.2.1⟩
    · exact ⟨q6.2.1, q6.2.2.1⟩
    · exact ⟨q7.2.1, q7.2.2.1⟩)
  simp only [List.map_cons, List.map_nil] at w3
  rw [lenB8, repB15, ← w2, ← h3] at w3
  rw [q0.2.2.2, q1.2.2.2, q2.2.2.2, q3.2.2.2, q4.2.2.2, q5.2.2.2, q6.2.2.2, q7.2.2.2] at w3
  have l0 := pop_le c0 8
  have l1 := pop_le c1 8
  have l2 := pop_le c2 8
  have l3 := pop_le c3 8
  have l4 := pop_le c4 8
  have l5 := pop_le c5 8
  have l6 := pop_le c6 8
  have l7 := pop_le c7 8
  rw [hp]
  have z1 : y1 < 18446744073709551616 := by
    have := ofB_le 255 [byteG1 c0, byteG1 c1, byteG1 c2, byteG1 c3, byteG1 c4, byteG1 c5, byteG1 c6, byteG1 c7] (by
      intro b hb
      simp only [List.mem_cons, List.not_mem_nil, or_false] at hb
      rcases hb with rfl | rfl | rfl | rfl | rfl | rfl | rfl | rfl
      · exact Nat.le_of_lt_succ q0.1
      · exact Nat.le_of_lt_succ q1.1
      · exact Nat.le_of_lt_succ q2.1
      · exact Nat.le_of_lt_succ q3.1
      · exact Nat.le_of_lt_succ q4.1
      · exact Nat.le_of_lt_succ q5.1
      · exact Nat.le_of_lt_succ q6.1
      · exact Nat.le_of_lt_succ q7.1)
    rw [← w1, lenB8, repB1] at this
    exact Nat.lt_of_le_of_lt this (by decide)
  have z2 : y2 < 18446744073709551616 ∧ y2 / 16 + y2 < 18446744073709551616 := by
    have := ofB_le 68 [byteG2 (byteG1 c0), byteG2 (byteG1 c1), byteG2 (byteG1 c2), byteG2 (byteG1 c3), byteG2 (byteG1 c4), byteG2 (byteG1 c5), byteG2 (byteG1 c6), byteG2 (byteG1 c7)] (by
      intro b hb
      simp only [List.mem_cons, List.not_mem_nil, or_false] at hb
      rcases hb with rfl | rfl | rfl | rfl | rfl | rfl | rfl | rfl
      · exact Nat.le_of_lt_succ q0.2.1
      · exact Nat.le_of_lt_succ q1.2.1
      · exact Nat.le_of_lt_succ q2.2.1
      · exact Nat.le_of_lt_succ q3.2.1
      · exact Nat.le_of_lt_succ q4.2.1
      · exact Nat.le_of_lt_succ q5.2.1
      · exact Nat.le_of_lt_succ q6.2.1
      · exact Nat.le_of_lt_succ q7.2.1)
    rw [← w2, lenB8, repB1] at this
    exact ⟨Nat.lt_of_le_of_lt this (by decide), Nat.lt_of_le_of_lt (Nat.add_le_add (Nat.div_le_div_right this) this) (by decide)⟩
  have hh := sumB8 (pop c0 8) (pop c1 8) (pop c2 8) (pop c3 8) (pop c4 8) (pop c5 8) (pop c6 8) (pop c7 8) y3 y4 y5 y6 l0 l1 l2 l3 l4 l5 l6 l7 (by rw [w3]; simp only [ofB, Nat.mul_zero, Nat.add_zero]) h4 h5 h6
  exact ⟨z1, z2.1, z2.2, hh.1, hh.2.1, hh.2.2.1, hh.2.2.2.1, hh.2.2.2.2⟩

/-- The least bit that is set. -/
theorem ctz_bits (x : Nat) (hx : x < 18446744073709551616) (h0 : x ≠ 0) : Lib.ctz 64 x < 64 ∧ x.testBit (Lib.ctz 64 x) = true ∧ ∀ j, j < Lib.ctz 64 x → x.testBit j = false := by
  unfold Lib.ctz
  rw [if_neg h0]
  obtain ⟨m, hm, hk⟩ := Lib.ctzFrom_spec 64 x (by omega) hx
  generalize Lib.ctzFrom 64 x = c at hm hk
  refine ⟨hk, ?_, fun j hj => ?_⟩
  · rw [hm, Nat.mul_comm, Nat.testBit_mul_two_pow]
    simp [Nat.testBit_zero]
  · rw [hm, Nat.mul_comm, Nat.testBit_mul_two_pow]
    simp; omega

/-- Words that tell a set: the bits from its size on are not set. -/
def SW (ws : List Nat) (l : List Bool) : Prop := ws.length = 64 ∧ (∀ k, ws.getD k 0 < 18446744073709551616) ∧ ∀ q r, q < 64 → r < 64 → (ws.getD q 0).testBit r = l.getD (64 * q + r) false
theorem SW.none_ (n : Nat) : SW (List.replicate 64 0) (List.replicate n false) := by
  have e : ∀ k, (List.replicate 64 0).getD k 0 = 0 := fun k => by
    simp only [List.getD, List.getElem?_replicate]; split <;> rfl
  have e2 : ∀ k, (List.replicate n false).getD k false = false := fun k => by
    simp only [List.getD, List.getElem?_replicate]; split <;> rfl
  refine ⟨by simp, fun k => by rw [e]; decide, fun q r _ _ => by rw [e, e2]; simp⟩
theorem SW.flip {ws : List Nat} {l : List Bool} (h : SW ws l) (q r : Nat) (hq : q < 64) (hr : r < 64) (hl : 64 * q + r < l.length) :
    SW (ws.set q (ws.getD q 0 ^^^ 2 ^ r)) (l.set (64 * q + r) (!l.getD (64 * q + r) false)) := by
  obtain ⟨h1, h2, h3⟩ := h
  have hb : ws.getD q 0 ^^^ 2 ^ r < 18446744073709551616 := Nat.xor_lt_two_pow (n := 64) (h2 q) (Nat.lt_of_lt_of_le (Nat.pow_lt_pow_right (by omega) hr) (Nat.le_refl _))
  have e : ∀ k, (ws.set q (ws.getD q 0 ^^^ 2 ^ r)).getD k 0 = if k = q then ws.getD q 0 ^^^ 2 ^ r else ws.getD k 0 := fun k => by
    simp only [List.getD, List.getElem?_set]
    by_cases hk : q = k
    · subst hk; simp [h1, hq]
    · simp [hk, show k ≠ q from fun e => hk e.symm]
  refine ⟨by simp [h1], fun k => ?_, fun q2 r2 hq2 hr2 => ?_⟩
  · rw [e]; split
    · exact hb
    · exact h2 k
  · rw [e]
    have e2 : (l.set (64 * q + r) (!l.getD (64 * q + r) false)).getD (64 * q2 + r2) false = if 64 * q2 + r2 = 64 * q + r then !l.getD (64 * q + r) false else l.getD (64 * q2 + r2) false := by
      simp only [List.getD, List.getElem?_set]
      by_cases hk : 64 * q + r = 64 * q2 + r2
      · rw [hk]; simp only [if_pos, hk ▸ hl]; simp
      · simp [hk, show ¬ 64 * q2 + r2 = 64 * q + r from fun e => hk e.symm]
    rw [e2]
    by_cases hqq : q2 = q
    · subst hqq
      rw [if_pos rfl, Nat.testBit_xor, h3 q2 r2 hq2 hr2, Nat.testBit_two_pow]
      by_cases hrr : r2 = r
      · subst hrr; simp
      · rw [if_neg (by omega)]
        simp [show ¬ r = r2 from fun e => hrr e.symm]
    · rw [if_neg hqq, if_neg (by omega), h3 q2 r2 hq2 hr2]
/-- How many are there is how many bits are set. -/
theorem listK_pop (l : List Bool) (a x : Nat) : ∀ k, (∀ i, i < k → x.testBit i = l.getD (a + i) false) → (listK l (a + k)).length = (listK l a).length + pop x k
  | 0, _ => by simp [pop]
  | k + 1, h => by
    rw [← Nat.add_assoc, listK, pop, h k (by omega)]
    have := listK_pop l a x k (fun i hi => h i (by omega))
    cases l.getD (a + k) false <;> simp [this, Nat.add_assoc]
end Go.Proofs.YtibaaideleinhaaDoor
