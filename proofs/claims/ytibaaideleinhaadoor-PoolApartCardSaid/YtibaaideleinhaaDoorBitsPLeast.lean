/- The walk of the program's least; Next, Gap (layer 5). -/
import Derived.Test.YtibaaideleinhaaDoorBitsPHas
set_option linter.unusedVariables false
namespace Go.Proofs.YtibaaideleinhaaDoor
open Go.RowKit

/-- None from a on below p that is there (or is not). -/
def NoneB (l : List Bool) (b : Bool) (a p : Nat) : Prop := ∀ j, a ≤ j → j < p → j < l.length → l.getD j false ≠ b
theorem first_found (l : List Bool) (b : Bool) (i : Int) (a j : Nat) (ha : (a : Int) = max i 0) (h : NoneB l b a j) (h1 : a ≤ j) (h2 : j < l.length) (h3 : l.getD j false = b) : firstB l i b = (j : Int) := by
  have := (firstK_some l i b j l.length).2 ⟨h2, by omega, h3, fun k hk hc => h k (by omega) hk (by omega) hc.2⟩
  unfold firstB
  rw [this]
theorem first_none (l : List Bool) (b : Bool) (i : Int) (a p : Nat) (ha : (a : Int) = max i 0) (h : NoneB l b a p) (hp : l.length ≤ p) : firstB l i b = -1 := by
  have := (firstK_none l i b l.length).2 fun k hk hc => h k (by omega) (by omega) hk hc.2
  unfold firstB
  rw [this]
/-- The mark that turns a word: none for what is there, all bits for what is not. -/
def turn (b : Bool) : Nat := if b then 0 else 18446744073709551615
theorem turn_lt (b : Bool) : turn b < 18446744073709551616 := by cases b <;> decide
theorem turn_bit (b : Bool) (j : Nat) (h : j < 64) : (turn b).testBit j = !b := by
  cases b
  · have := Nat.testBit_two_pow_sub_one 64 j
    rw [show (2 : Nat) ^ 64 - 1 = turn false from rfl] at this
    rw [this, decide_eq_true h]; rfl
  · simp [turn]
/-- What is left of a word behind so many bits. -/
def restK (x : Nat) (b : Bool) (r : Nat) : Nat := (x ^^^ turn b) / 2 ^ r
theorem xt_lt (x : Nat) (b : Bool) (h : x < 18446744073709551616) : x ^^^ turn b < 18446744073709551616 := Nat.xor_lt_two_pow (n := 64) h (turn_lt b)
theorem rest_lt (x : Nat) (b : Bool) (r : Nat) (h : x < 18446744073709551616) : restK x b r < 18446744073709551616 := Nat.lt_of_le_of_lt (Nat.div_le_self _ _) (xt_lt x b h)
theorem rest_bit (x : Nat) (b : Bool) (r j : Nat) (h : r + j < 64) : (restK x b r).testBit j = (x.testBit (r + j) == b) := by
  unfold restK
  rw [Nat.testBit_div_two_pow, Nat.testBit_xor, Nat.add_comm j r, turn_bit b _ h]
  cases x.testBit (r + j) <;> cases b <;> rfl
theorem rest_high (x : Nat) (b : Bool) (r j : Nat) (hx : x < 18446744073709551616) (h : 64 ≤ r + j) : (restK x b r).testBit j = false := by
  unfold restK
  rw [Nat.testBit_div_two_pow]
  exact Nat.testBit_lt_two_pow (Nat.lt_of_lt_of_le (xt_lt x b hx) (by rw [Nat.add_comm]; exact Nat.pow_le_pow_right (n := 2) (by omega) h))
/-- Nothing is left: none in this word. -/
theorem none_word {ws : List Nat} {l : List Bool} (h : SW ws l) (b : Bool) (a p : Nat) (hn : NoneB l b a p) (hp : p < 4096) (h0 : restK (ws.getD (p / 64) 0) b (p % 64) = 0) : NoneB l b a (p + (64 - p % 64)) := fun j h1 h2 h3 hc => by
  rcases Nat.lt_or_ge j p with h4 | h4
  · exact hn j h1 h4 h3 hc
  · have hb := rest_bit (ws.getD (p / 64) 0) b (p % 64) (j - p) (by omega)
    rw [h0, Nat.zero_testBit, h.2.2 (p / 64) (p % 64 + (j - p)) (by omega) (by omega), show 64 * (p / 64) + (p % 64 + (j - p)) = j by omega, hc] at hb
    cases b <;> simp at hb
/-- Something is left: the least of it is the next one, if it is one of the set's. -/
theorem some_word {ws : List Nat} {l : List Bool} (h : SW ws l) (b : Bool) (a p c : Nat) (hn : NoneB l b a p) (hp : p < 4096) (hx : ws.getD (p / 64) 0 < 18446744073709551616) (h0 : restK (ws.getD (p / 64) 0) b (p % 64) ≠ 0) (hc : c = Lib.ctz 64 (restK (ws.getD (p / 64) 0) b (p % 64))) :
    p % 64 + c < 64 ∧ NoneB l b a (p + c) ∧ (p + c < l.length → l.getD (p + c) false = b) := by
  obtain ⟨k1, k2, k3⟩ := ctz_bits _ (rest_lt (ws.getD (p / 64) 0) b (p % 64) hx) h0
  rw [← hc] at k1 k2 k3
  have hlt : p % 64 + c < 64 := by
    rcases Nat.lt_or_ge (p % 64 + c) 64 with h1 | h1
    · exact h1
    · rw [rest_high _ _ _ _ hx h1] at k2; cases k2
  refine ⟨hlt, fun j h1 h2 h3 he => ?_, fun _ => ?_⟩
  · rcases Nat.lt_or_ge j p with h4 | h4
    · exact hn j h1 h4 h3 he
    · have hb := rest_bit (ws.getD (p / 64) 0) b (p % 64) (j - p) (by omega)
      rw [k3 (j - p) (by omega), h.2.2 (p / 64) (p % 64 + (j - p)) (by omega) (by omega), show 64 * (p / 64) + (p % 64 + (j - p)) = j by omega, he] at hb
      cases b <;> simp at hb
  · rw [rest_bit _ _ _ _ hlt, h.2.2 (p / 64) (p % 64 + c) (by omega) (by omega), show 64 * (p / 64) + (p % 64 + c) = p + c by omega] at k2
    exact eq_of_beq k2

set_option maxRecDepth 100000 in
set_option maxHeartbeats 1000000 in
theorem least_any (l : List Bool) (b : Bool) (g : Nat) (i : Int) (w : World) (hi : InI i) (h : SetAt w g l) (hl : l.length ≤ 4096) :
    Calls Tryd.prog 39 #[.pointer (some ⟨g, 0, none⟩), .int .i64 i, .int .u64 ((turn b : Nat) : Int)] w fun e w' => e = .returned (.int .i64 (firstB l i b)) ∧ Below w.heap.size w w' := by
  obtain ⟨a, ha⟩ : ∃ a : Nat, (a : Int) = max i 0 := ⟨(max i 0).toNat, by omega⟩
  obtain ⟨n, hn⟩ : ∃ n, n = l.length := ⟨_, rfl⟩
  obtain ⟨t, ht⟩ : ∃ t, t = turn b := ⟨_, rfl⟩
  obtain ⟨hT, hg, ws, hW, hS⟩ := h
  have z0 := fun w' => Tryd.isNil g w'
  have hmax : (if i < 0 then 0 else i) = (a : Int) := by split <;> omega
  have hc0 := hS.size
  rw [← hn] at hc0 hl
  have HT := Lib.hid hT
  have HW := Lib.hid hW
  have HS := Lib.hid hS
  have HN := Lib.hid hn
  have HA := Lib.hid ha
  have HTt := Lib.hid ht
  have hi1 := hi.1
  have hi2 := hi.2
  rw [← ht]
  clear hT hW hS ha ht hn
  go_enter Tryd.func39, Tryd.ntmps39
  go_wp2
  go_loopw [1] (fun v wr => ∃ p : Nat, v = .int .i64 (p : Int) ∧ a ≤ p ∧ Hid (NoneB l b a p) ∧ w = wr) (fun v _ => 4200 - (intOf v).toNat)
  case atStart => exact ⟨a, by rw [HA.out], Nat.le_refl _, fun j h1 h2 _ => by omega, rfl⟩
  case round =>
    obtain ⟨p, rfl, hap, HNo, rfl⟩ := hrel
    by_cases hlt : p < n
    · obtain ⟨x, hx⟩ : ∃ x, x = ws.getD (p / 64) 0 := ⟨_, rfl⟩
      have hx64 : x < 18446744073709551616 := by rw [hx]; exact HW.out.2.1 _
      obtain ⟨q, hq⟩ : ∃ q, q = p / 64 := ⟨_, rfl⟩
      obtain ⟨r, hr⟩ : ∃ r, r = p % 64 := ⟨_, rfl⟩
      obtain ⟨y, hy⟩ : ∃ y, y = x ^^^ turn b := ⟨_, rfl⟩
      obtain ⟨z, hz⟩ : ∃ z, z = restK x b r := ⟨_, rfl⟩
      have hcx := HS.out.word q (by omega)
      rw [hq, ← hx, ← hq] at hcx
      have e1 : (p : Int) / 64 = (q : Int) := by omega
      have e2 : (p : Int) % 64 = (r : Int) := by omega
      have e3 : bits .xor .u64 (x : Int) (t : Int) = (y : Int) := by rw [HTt.out, hy]; exact xor_u64 x _ hx64 (turn_lt b)
      have u1 : IntKind.i64.wrap (q : Int) = (q : Int) := IntWalk.i64_in _ (by omega)
      have u2 : (0 : Int) ≤ (q : Int) := by omega
      have u3 : (q : Int) < 64 := by omega
      have u4 : (0 : Int) ≤ (r : Int) := by omega
      have u5 : (p : Int) < (n : Int) := by omega
      have e4 : (y : Int) / 2 ^ r = (z : Int) := by
        rw [hz, hy, restK, Int.natCast_ediv]; simp
      have HP4 : p < 4096 := by omega
      by_cases hz0 : z = 0
      · have HE : Hid (NoneB l b a (p + (64 - p % 64))) := none_word HW.out b a p HNo.out HP4 (by rw [← hx, ← hr, ← hz]; exact hz0)
        rw [hz0] at e4
        have HR := Lib.hid hr
        clear hx hq hr hy hz hmax hz0
        go_wp2
        refine ⟨⟨p + (64 - p % 64), by go_num, by omega, HE, trivial⟩, ?_⟩
        simp [intOf]; omega
      · obtain ⟨c, hc⟩ : ∃ c, c = Lib.ctz 64 z := ⟨_, rfl⟩
        have HE := Lib.hid (some_word HW.out b a p c HNo.out HP4 (by rw [← hx]; exact hx64) (by rw [← hx, ← hr, ← hz]; exact hz0) (by rw [← hx, ← hr, ← hz]; exact hc))
        have HC : Hid (∀ V, Tz V → Calls Tryd.prog 46 #[.int .u64 (z : Int)] V fun e w' => e = .returned (.int .i64 (c : Int)) ∧ V = w') := fun V hV => by
          rw [hc]; exact (tz_any z V (by rw [hz]; exact rest_lt x b r hx64) hz0 hV).mono fun _ _ h => ⟨h.1, h.2.symm⟩
        have hc64 : c < 64 := by have := HE.out.1; omega
        have d0 : ((z : Int) == 0) = false := by rw [beq_eq_false_iff_ne]; omega
        have d1 : (z == 0) = false := by rw [beq_eq_false_iff_ne]; exact hz0
        clear hx hq hr hy hz hmax hc
        by_cases hlt2 : p + c < n
        · have HF : Hid (firstB l i b = ((p + c : Nat) : Int)) := first_found l b i a (p + c) HA.out HE.out.2.1 (by omega) (by have := HN.out; omega) (HE.out.2.2 (by have := HN.out; omega))
          have d2 : (p : Int) + (c : Int) < (n : Int) := by omega
          go_wp2_with (go_at_call 46; (with_reducible refine (HC.out _ HT.out).mono ?_); rintro e w' ⟨rfl, rfl⟩)
          go_ret
          exact ⟨by rw [HF.out]; rfl, Below.refl _ _⟩
        · have d2 : ¬ (p : Int) + (c : Int) < (n : Int) := by omega
          go_wp2_with (go_at_call 46; (with_reducible refine (HC.out _ HT.out).mono ?_); rintro e w' ⟨rfl, rfl⟩)
          refine ⟨⟨p + c, by go_num, by omega, HE.out.2.1, trivial⟩, ?_⟩
          simp [intOf]; omega
    · have HF : Hid (firstB l i b = -1) := first_none l b i a p HA.out HNo.out (by have := HN.out; omega)
      have u5 : ¬ (p : Int) < (n : Int) := by omega
      go_wp2
      go_ret
      exact ⟨by rw [HF.out]; rfl, Below.refl _ _⟩

set_option maxRecDepth 100000 in
theorem least_none (i : Int) (t : Nat) (w : World) : Calls Tryd.prog 39 #[.pointer none, .int .i64 i, .int .u64 (t : Int)] w fun e w' => e = .returned (.int .i64 (-1)) ∧ Below w.heap.size w w' := by
  have n0 := fun w' => Tryd.nilIs w'
  go_enter Tryd.func39, Tryd.ntmps39
  go_wp2
  go_ret
  exact ⟨rfl, Below.refl _ _⟩

set_option maxRecDepth 100000 in
theorem bitsNext_any (l : List Bool) (g : Nat) (i : Int) (w : World) (hi : InI i) (h : SetAt w g l) (hl : l.length ≤ 4096) :
    Calls Tryd.prog 44 #[.pointer (some ⟨g, 0, none⟩), .int .i64 i] w fun e w' => e = .returned (.int .i64 (firstB l i true)) ∧ Below w.heap.size w w' := by
  have HL : Hid (Calls Tryd.prog 39 #[.pointer (some ⟨g, 0, none⟩), .int .i64 i, .int .u64 0] w fun e w' => e = .returned (.int .i64 (firstB l i true)) ∧ Below w.heap.size w w') := least_any l true g i w hi h hl
  generalize firstB l i true = f at HL ⊢
  clear h
  go_enter Tryd.func44, Tryd.ntmps44
  go_wp2_with (go_at_call 39; (with_reducible refine HL.out.mono ?_); rintro e w' ⟨rfl, hb⟩)
  go_ret
  exact ⟨rfl, hb⟩
set_option maxRecDepth 100000 in
theorem bitsGap_any (l : List Bool) (g : Nat) (i : Int) (w : World) (hi : InI i) (h : SetAt w g l) (hl : l.length ≤ 4096) :
    Calls Tryd.prog 27 #[.pointer (some ⟨g, 0, none⟩), .int .i64 i] w fun e w' => e = .returned (.int .i64 (firstB l i false)) ∧ Below w.heap.size w w' := by
  have HL : Hid (Calls Tryd.prog 39 #[.pointer (some ⟨g, 0, none⟩), .int .i64 i, .int .u64 18446744073709551615] w fun e w' => e = .returned (.int .i64 (firstB l i false)) ∧ Below w.heap.size w w') := least_any l false g i w hi h hl
  generalize firstB l i false = f at HL ⊢
  clear h
  go_enter Tryd.func27, Tryd.ntmps27
  go_wp2_with (go_at_call 39; (with_reducible refine HL.out.mono ?_); rintro e w' ⟨rfl, hb⟩)
  go_ret
  exact ⟨rfl, hb⟩
set_option maxRecDepth 100000 in
theorem bitsNext_none (i : Int) (w : World) : Calls Tryd.prog 44 #[.pointer none, .int .i64 i] w fun e w' => e = .returned (.int .i64 (-1)) ∧ Below w.heap.size w w' := by
  have HL : Hid (Calls Tryd.prog 39 #[.pointer none, .int .i64 i, .int .u64 0] w fun e w' => e = .returned (.int .i64 (-1)) ∧ Below w.heap.size w w') := least_none i 0 w
  go_enter Tryd.func44, Tryd.ntmps44
  go_wp2_with (go_at_call 39; (with_reducible refine HL.out.mono ?_); rintro e w' ⟨rfl, hb⟩)
  go_ret
  exact ⟨rfl, hb⟩
set_option maxRecDepth 100000 in
theorem bitsGap_none (i : Int) (w : World) : Calls Tryd.prog 27 #[.pointer none, .int .i64 i] w fun e w' => e = .returned (.int .i64 (-1)) ∧ Below w.heap.size w w' := by
  have HL : Hid (Calls Tryd.prog 39 #[.pointer none, .int .i64 i, .int .u64 18446744073709551615] w fun e w' => e = .returned (.int .i64 (-1)) ∧ Below w.heap.size w w') := least_none i 18446744073709551615 w
  go_enter Tryd.func27, Tryd.ntmps27
  go_wp2_with (go_at_call 39; (with_reducible refine HL.out.mono ?_); rintro e w' ⟨rfl, hb⟩)
  go_ret
  exact ⟨rfl, hb⟩

end Go.Proofs.YtibaaideleinhaaDoor
