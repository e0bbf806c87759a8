/- Lemmas under the proofs of this place: SupPNext, SectPGet, SupRGet. No statement is proved here. -/
import Derived.Test.YtkockhggnbfahaaBu23
import Derived.Test.YtkockhggnbfahaaBu05
import Derived.Test.YtkockhggnbfahaaBu17
import Derived.Test.YtkockhggnbfahaaBu19
import Derived.Test.YtkockhggnbfahaaBu04
import Derived.BigFrame
section
set_option linter.unusedVariables false
set_option linter.unusedSimpArgs false
namespace Go.Proofs.Ytkockhggnbfahaa
open Go.RowKit
set_option maxRecDepth 100000 in
set_option maxHeartbeats 2000000 in
theorem next_any (g : Nat) (st : St) (w : World) (h : Cur w g st) :
    Calls Try.prog 33 #[.pointer (some ⟨g, 0, none⟩)] w fun e w' => e = .returned (.int .i64 (fieldZ (stepTake 4 st).2)) ∧ Cur w' g (stepTake 4 st).1 ∧ Only w w' g := by
  have ht := take_any g 4 st w h
  have hle : (stepTake 4 st).2.length ≤ 1048576 := by
    rcases st with _ | L
    · simp [stepTake]
    · obtain ⟨_, _, _, _, _, hl⟩ := h
      simp only [stepTake]
      split
      · simp
      · simp only [List.length_take]; omega
  obtain ⟨r, hr⟩ : ∃ r, r = stepTake 4 st := ⟨_, rfl⟩
  rw [← hr] at ht hle ⊢
  clear hr h
  obtain ⟨st', L⟩ := r
  simp only at hle ⊢
  obtain ⟨q, hq⟩ : ∃ q, q = L.length := ⟨_, rfl⟩
  obtain ⟨u1, hu1⟩ : ∃ q, q = (unfixR L).1 := ⟨_, rfl⟩
  obtain ⟨u2, hu2⟩ : ∃ q, q = (unfixR L).2 := ⟨_, rfl⟩
  have HT : Hid (Calls Try.prog 74 #[.pointer (some ⟨g, 0, none⟩), .int .i64 4] w fun e w' => ∃ A c, e = .returned (.slice A q c) ∧ Hid (RB w' w'.heap.size A L ∧ Cur w' g st' ∧ Only w w' g)) := by
    refine ht.mono fun e w' hh => ?_
    obtain ⟨A, c, he, h2, h3, h4⟩ := hh
    rw [← hq] at he
    exact ⟨A, c, he, h2, h3, h4⟩
  have HU : Hid (∀ W (A : Option Addr) (c : Nat), RB W W.heap.size A L → Calls Try.prog 73 #[.slice A q c] W fun e w' => e = .returned (.tuple #[.int .i64 (u1 : Int), .int .i64 (u2 : Int)]) ∧ W = w') := fun W A c h => by
    rw [hq, hu1, hu2]
    exact unfix_any L A c _ W h hle
  have HV : Hid (fieldZ L = if u2 = 0 then (u1 : Int) else -1) := by show _ = _; unfold fieldZ; rw [hu1, hu2]
  clear ht hq hu1 hu2 hle
  by_cases h2 : u2 = 0
  · rw [if_pos h2] at HV
    rw [HV.out]
    subst h2
    go_enter Try.func33, Try.ntmps33
    go_wp2_with (first
      | (go_at_call 74; (with_reducible refine HT.out.mono ?_); rintro e w1 ⟨A, c, rfl, hh⟩; have hrb := hh.out.1)
      | (go_at_call 73; (with_reducible refine (HU.out _ _ _ hrb).mono ?_); rintro e w2 ⟨rfl, rfl⟩))
    go_ret
    exact ⟨rfl, hh.out.2.1, hh.out.2.2⟩
  · rw [if_neg h2] at HV
    rw [HV.out]
    have e0 : ((u2 : Int) != 0) = true := by simp; omega
    have e1 : ((u2 : Int) == 0) = false := by simp; omega
    go_enter Try.func33, Try.ntmps33
    go_wp2_with (first
      | (go_at_call 74; (with_reducible refine HT.out.mono ?_); rintro e w1 ⟨A, c, rfl, hh⟩; have hrb := hh.out.1)
      | (go_at_call 73; (with_reducible refine (HU.out _ _ _ hrb).mono ?_); rintro e w2 ⟨rfl, rfl⟩))
    go_ret
    exact ⟨rfl, hh.out.2.1, hh.out.2.2⟩
def stK (D : List UInt8) : Nat → St
  | 0 => some D
  | k + 1 => (stepTake 4 (stK D k)).1
def zK (D : List UInt8) (k : Nat) : Int := fieldZ (stepTake 4 (stK D k)).2
def supZ (x : Sd) : Pu := ⟨x.epoch, x.number, zK x.data 0, zK x.data 1, zK x.data 2, zK x.data 3⟩
theorem fieldZ_nil : fieldZ [] = -1 := by decide
theorem stK_some (D : List UInt8) : ∀ k, 4 * k ≤ D.length → stK D k = some (D.drop (4 * k))
  | 0, _ => by simp [stK]
  | k + 1, h => by
    unfold stK
    rw [stK_some D k (by omega), show (4 : Int) = ((4 : Nat) : Int) from rfl, step_ok (by rw [List.length_drop]; omega), List.drop_drop]
    simp only [Option.some.injEq]
    congr 1
theorem zK_some (D : List UInt8) (k : Nat) (h : 4 * (k + 1) ≤ D.length) : zK D k = capZ (unfixL ((D.drop (4 * k)).take 4)) := by
  unfold zK
  rw [stK_some D k (by omega), show (4 : Int) = ((4 : Nat) : Int) from rfl, step_ok (by rw [List.length_drop]; omega)]
  exact fieldZ_cap (by simp; omega) (by simp; omega)
theorem stK_short (D : List UInt8) (k : Nat) (h : D.length < 4 * (k + 1)) : stK D (k + 1) = none := by
  induction k with
  | zero =>
    unfold stK
    rw [show stK D 0 = some D from rfl, show (4 : Int) = ((4 : Nat) : Int) from rfl, step_no (by omega)]
  | succ k ih =>
    unfold stK
    by_cases hk : D.length < 4 * (k + 1)
    · rw [ih hk]; rfl
    · rw [stK_some D (k + 1) (by omega), show (4 : Int) = ((4 : Nat) : Int) from rfl, step_no (by rw [List.length_drop]; omega)]
theorem zK_short (D : List UInt8) (h : D.length < 16) : zK D 3 = -1 := by
  unfold zK
  by_cases hk : D.length < 12
  · rw [stK_short D 2 (by omega)]; exact fieldZ_nil
  · rw [stK_some D 3 (by omega), show (4 : Int) = ((4 : Nat) : Int) from rfl, step_no (by rw [List.length_drop]; omega)]; exact fieldZ_nil
theorem capZ_of {n : Nat} (h : 0 ≤ capZ n) : capZ n = (n : Int) := by
  unfold capZ at h ⊢
  split
  · rfl
  · rename_i h1; rw [if_neg h1] at h; omega
theorem capZ_le {n : Nat} (h : n ≤ 2147483647) : capZ n = (n : Int) := by unfold capZ; rw [if_pos h]
theorem supZ_iff (x : Sd) : (x.kind = 1 ∧ x.left = 0 ∧ leftN (stK x.data 4) = 0 ∧ (supZ x).may = true) ↔ (x.data.length = 16 ∧ (supOf x).may = true ∧ (supOf x).sec = x) := by
  constructor
  · rintro ⟨hk, hl, h4, hm⟩
    have hm2 := (Pu.may_iff _).1 hm
    obtain ⟨m1, m2, m3, m4, m5, m6, m7⟩ := hm2
    have h16 : x.data.length = 16 := by
      by_cases h1 : x.data.length < 16
      · have h2 := zK_short x.data h1
        have e : (supZ x).owner = -1 := h2
        rw [e] at m7
        omega
      · rw [stK_some x.data 4 (by omega)] at h4
        have h5 : (x.data.drop 16).length = 0 := h4
        rw [List.length_drop] at h5
        omega
    have z0 : zK x.data 0 = (unfixL (x.data.take 4) : Int) := by
      have := zK_some x.data 0 (by omega)
      rw [this]
      refine capZ_of ?_
      rw [← this]
      have e : (supZ x).log = zK x.data 0 := rfl
      omega
    have z1 : zK x.data 1 = (unfixL ((x.data.drop 4).take 4) : Int) := by
      have := zK_some x.data 1 (by omega)
      rw [this]
      refine capZ_of ?_
      rw [← this]
      have e : (supZ x).first = zK x.data 1 := rfl
      omega
    have z2 : zK x.data 2 = (unfixL ((x.data.drop 8).take 4) : Int) := by
      have := zK_some x.data 2 (by omega)
      rw [this]
      refine capZ_of ?_
      rw [← this]
      have e : (supZ x).size = zK x.data 2 := rfl
      omega
    have z3 : zK x.data 3 = (unfixL ((x.data.drop 12).take 4) : Int) := by
      have := zK_some x.data 3 (by omega)
      rw [this]
      refine capZ_of ?_
      rw [← this]
      have e : (supZ x).owner = zK x.data 3 := rfl
      omega
    have e : supZ x = supOf x := by
      unfold supZ supOf
      rw [z0, z1, z2, z3]
    rw [e] at hm
    exact ⟨h16, hm, (sec_supOf x h16).2 ⟨hk, hl⟩⟩
  · rintro ⟨h16, hm, hs⟩
    obtain ⟨hk, hl⟩ := (sec_supOf x h16).1 hs
    have hm2 := (Pu.may_iff _).1 hm
    obtain ⟨m1, m2, m3, m4, m5, m6, m7⟩ := hm2
    unfold supOf at m1 m2 m3 m4 m5 m6 m7
    simp only at m1 m2 m3 m4 m5 m6 m7
    have z0 : zK x.data 0 = (unfixL (x.data.take 4) : Int) := by rw [zK_some x.data 0 (by omega)]; exact capZ_le (by simp only [Nat.mul_zero, List.drop_zero]; omega)
    have z1 : zK x.data 1 = (unfixL ((x.data.drop 4).take 4) : Int) := by rw [zK_some x.data 1 (by omega)]; exact capZ_le (by simp only [Nat.mul_one]; omega)
    have z2 : zK x.data 2 = (unfixL ((x.data.drop 8).take 4) : Int) := by rw [zK_some x.data 2 (by omega)]; exact capZ_le (by simp only [show 4 * 2 = 8 from rfl]; omega)
    have z3 : zK x.data 3 = (unfixL ((x.data.drop 12).take 4) : Int) := by rw [zK_some x.data 3 (by omega)]; exact capZ_le (by simp only [show 4 * 3 = 12 from rfl]; omega)
    have e : supZ x = supOf x := by
      unfold supZ supOf
      rw [z0, z1, z2, z3]
    refine ⟨hk, hl, ?_, by rw [e]; exact hm⟩
    rw [stK_some x.data 4 (by omega)]
    show (x.data.drop 16).length = 0
    rw [List.length_drop]
    omega
theorem supZ_of {x : Sd} (h : x.data.length = 16 ∧ (supOf x).may = true ∧ (supOf x).sec = x) : supZ x = supOf x := by
  obtain ⟨h16, hm, hs⟩ := h
  have hm2 := (Pu.may_iff _).1 hm
  obtain ⟨m1, m2, m3, m4, m5, m6, m7⟩ := hm2
  unfold supOf at m1 m2 m3 m4 m5 m6 m7
  simp only at m1 m2 m3 m4 m5 m6 m7
  have z0 : zK x.data 0 = (unfixL (x.data.take 4) : Int) := by rw [zK_some x.data 0 (by omega)]; exact capZ_le (by simp only [Nat.mul_zero, List.drop_zero]; omega)
  have z1 : zK x.data 1 = (unfixL ((x.data.drop 4).take 4) : Int) := by rw [zK_some x.data 1 (by omega)]; exact capZ_le (by simp only [Nat.mul_one]; omega)
  have z2 : zK x.data 2 = (unfixL ((x.data.drop 8).take 4) : Int) := by rw [zK_some x.data 2 (by omega)]; exact capZ_le (by simp only [show 4 * 2 = 8 from rfl]; omega)
  have z3 : zK x.data 3 = (unfixL ((x.data.drop 12).take 4) : Int) := by rw [zK_some x.data 3 (by omega)]; exact capZ_le (by simp only [show 4 * 3 = 12 from rfl]; omega)
  unfold supZ supOf
  rw [z0, z1, z2, z3]
end Go.Proofs.Ytkockhggnbfahaa
end
section
set_option linter.unusedVariables false
set_option linter.unusedSimpArgs false
namespace Go.Proofs.Ytkockhggnbfahaa
open Go.RowKit
theorem taken_bad (M : List UInt8) (hM : M.length = 60) (g : Nat) (w : World) (h : Cur w g (some M)) (hf : ¬ Formed M) :
    Calls Try.prog 71 #[.pointer (some ⟨g, 0, none⟩)] w (GivesT (.zero, false) g w) := by
  by_cases h48 : (M.getD 1 0).toNat ≤ 48
  · cases hm : Sd.may ⟨((M.getD 0 0).toNat : Int), capZ (unfixL ((M.drop 4).take 4)), capZ (unfixL ((M.drop 8).take 4)), (unfixL ((M.drop 2).take 2) : Int), (M.drop 12).take (M.getD 1 0).toNat⟩ with
    | false => exact taken_no M hM g w h h48 hm
    | true =>
      refine taken_odd M hM g w h h48 hm fun hz => hf ?_
      obtain ⟨a1, a2, a3, a4, a5, a6, a7, a8, a9⟩ := (Sd.may_iff _).1 hm
      simp only at a1 a2 a3 a4 a5 a6 a7 a8 a9
      refine ⟨by omega, h48, ?_, ?_, by rw [← List.drop_drop]; exact hz⟩
      · unfold capZ at a3
        split at a3
        · assumption
        · omega
      · unfold capZ at a5
        split at a5
        · assumption
        · omega
  · exact taken_long M hM g w h (by omega)
theorem taken_good (M : List UInt8) (hM : M.length = 60) (g : Nat) (w : World) (h : Cur w g (some M)) (hf : Formed M) :
    Calls Try.prog 71 #[.pointer (some ⟨g, 0, none⟩)] w (GivesT (secOf M, true) g w) := by
  obtain ⟨h1, h2, h3, h4, h5⟩ := hf
  have hlt := (M.getD 0 0).toNat_lt
  have e1 : capZ (unfixL ((M.drop 4).take 4)) = (unfixL ((M.drop 4).take 4) : Int) := by unfold capZ; rw [if_pos h3]
  have e2 : capZ (unfixL ((M.drop 8).take 4)) = (unfixL ((M.drop 8).take 4) : Int) := by unfold capZ; rw [if_pos h4]
  have l2 := unfixL_lt ((M.drop 2).take 2)
  have l3 : ((M.drop 2).take 2).length = 2 := by simp; omega
  rw [l3] at l2
  have key := taken_ok M hM g w h h2 (by
    rw [Sd.may_iff, e1, e2]
    have : (256 : Nat) ^ 2 = 65536 := rfl
    refine ⟨?_, ?_, ?_, ?_, ?_, ?_, ?_, ?_, ?_⟩
    · show (1 : Int) ≤ ((M.getD 0 0).toNat : Int); omega
    · show ((M.getD 0 0).toNat : Int) ≤ 255; omega
    · show (0 : Int) ≤ (unfixL ((M.drop 4).take 4) : Int); omega
    · show (unfixL ((M.drop 4).take 4) : Int) ≤ 2147483647; omega
    · show (0 : Int) ≤ (unfixL ((M.drop 8).take 4) : Int); omega
    · show (unfixL ((M.drop 8).take 4) : Int) ≤ 2147483647; omega
    · show (0 : Int) ≤ (unfixL ((M.drop 2).take 2) : Int); omega
    · show (unfixL ((M.drop 2).take 2) : Int) ≤ 65535; omega
    · show ((M.drop 12).take (M.getD 1 0).toNat).length ≤ 48
      rw [List.length_take]; omega) (by rw [List.drop_drop]; exact h5)
  rw [e1, e2] at key
  exact key
set_option maxRecDepth 100000 in
set_option maxHeartbeats 4000000 in
theorem sget_size (b : List UInt8) (n : Nat) (A : Option Addr) (c : Nat) (w : World) (hn : n = b.length) (h : n ≠ 64) :
    Calls Try.prog 31 #[.slice A n c] w (GivesS (getS b) w) := by
  have HV : Hid (getS b = (.zero, 11)) := getS_size (by omega)
  have nb := fun w' => Try.secBuild0 w'
  have a24 := fun w' => Try.aggSec w'
  have s24 := fun w' => Try.sizeSec w'
  have d0 : (((n : Int) != 64)) = true := by simp; omega
  have d1 : ((n : Int) == 64) = false := by simp; omega
  clear hn h
  go_enter Try.func31, Try.ntmps31
  go_wp2
  refine bodyPost_ret (v := .tuple #[.agg #[.int .i64 0, .int .i64 0, .int .i64 0, .int .i64 0, .slice none 0 0], .int .i64 11]) (by simp [results, Try.results31, go_sem]) rfl ⟨none, 0, by rw [HV.out]; rfl, by rw [HV.out]; exact RB.none_ _ _, (Below.refl _ _).alloc (Nat.le_refl _) _⟩
set_option maxRecDepth 100000 in
set_option maxHeartbeats 4000000 in
theorem sget_sum (b : List UInt8) (A : Option Addr) (c : Nat) (w : World) (h64 : b.length = 64) (hr : RB w w.heap.size A b) (hc : 64 ≤ c) (hcm : c ≤ 9223372036854775807) (ho : openL b = none) :
    Calls Try.prog 31 #[.slice A 64 c] w (GivesS (getS b) w) := by
  have HV : Hid (getS b = (.zero, 12)) := getS_sum h64 ho
  have HO : Hid (∀ W, Below w.heap.size w W → Calls Try.prog 70 #[.slice A 64 c] W fun e w' => e = .returned (.tuple #[.slice none 0 0, .int .i64 12]) ∧ Below W.heap.size W w') := fun W hb => by
    have := open_any b A c _ W (rb_up7 hr hb) (by omega) hcm (by omega)
    rw [ho, h64] at this
    exact this
  have HB : Hid (Below w.heap.size w (w.alloc (.cells #[.int .i64 0, .int .i64 0, .int .i64 0, .int .i64 0, .slice none 0 0] 70))) := (Below.refl _ _).alloc (Nat.le_refl _) _
  have HC := Lib.hid (fun W hb => res_at w W hb)
  have nb := fun w' => Try.secBuild0 w'
  have a24 := fun w' => Try.aggSec w'
  have s24 := fun w' => Try.sizeSec w'
  clear h64 hr hc hcm ho
  go_enter Try.func31, Try.ntmps31
  go_wp2_with (go_at_call 70; (with_reducible refine (HO.out _ HB.out).mono ?_); rintro e w1 ⟨rfl, hb1⟩; obtain ⟨⟨p0, p1, p2, p3, p4⟩, f0, f1, f2, f3, f4⟩ := HC.out _ hb1)
  refine bodyPost_ret (v := .tuple #[.agg #[.int .i64 0, .int .i64 0, .int .i64 0, .int .i64 0, .slice none 0 0], .int .i64 12]) (by simp [results, Try.results31, go_sem, p0, p1, p2, p3, p4]) rfl ⟨none, 0, by rw [HV.out]; rfl, by rw [HV.out]; exact RB.none_ _ _, below_five (chain7 HB.out hb1) (Nat.le_refl _) _ _ _ _ _⟩
set_option maxRecDepth 100000 in
set_option maxHeartbeats 4000000 in
theorem sget_in (b M : List UInt8) (A : Option Addr) (c : Nat) (w : World) (h64 : b.length = 64) (hr : RB w w.heap.size A b) (hc : 64 ≤ c) (hcm : c ≤ 9223372036854775807) (ho : openL b = some M) :
    Calls Try.prog 31 #[.slice A 64 c] w (GivesS (getS b) w) := by
  have hM : M.length = 60 := by have := (openL_some ho).2; omega
  have HO : Hid (∀ W, Below w.heap.size w W → Calls Try.prog 70 #[.slice A 64 c] W fun e w' => ∃ A c, e = .returned (.tuple #[.slice A 60 c, .int .i64 0]) ∧ Hid (RB w' w'.heap.size A M) ∧ Below W.heap.size W w') := fun W hb => by
    have := open_any b A c _ W (rb_up7 hr hb) (by omega) hcm (by omega)
    rw [ho, h64] at this
    refine this.mono fun e w' hh => ?_
    obtain ⟨A, c, he, h2, h3⟩ := hh
    rw [hM] at he
    exact ⟨A, c, he, own_rb h2, h3⟩
  have HF : Hid (∀ W (A : Option Addr) (c : Nat), RB W W.heap.size A M → Calls Try.prog 32 #[.slice A 60 c] W fun e w' => ∃ g, e = .returned (.pointer (some ⟨g, 0, none⟩)) ∧ W.heap.size ≤ g ∧ Hid (Cur w' g (some M)) ∧ Below W.heap.size W w') := fun W A c h => by
    have := from_any M A c W h (by omega)
    rw [hM] at this
    exact this
  have HB : Hid (Below w.heap.size w (w.alloc (.cells #[.int .i64 0, .int .i64 0, .int .i64 0, .int .i64 0, .slice none 0 0] 70))) := (Below.refl _ _).alloc (Nat.le_refl _) _
  have HC := Lib.hid (fun W hb => res_at w W hb)
  have nb := fun w' => Try.secBuild0 w'
  have a24 := fun w' => Try.aggSec w'
  have s24 := fun w' => Try.sizeSec w'
  by_cases hf : Formed M
  · have HV : Hid (getS b = (secOf M, 0)) := getS_ok h64 ho hf
    rcases hs : secOf M with ⟨kz, ez, nz, lz, D⟩
    obtain ⟨m, hm⟩ : ∃ m, m = D.length := ⟨_, rfl⟩
    have HT : Hid (∀ W g, Hid (Cur W g (some M)) → Calls Try.prog 71 #[.pointer (some ⟨g, 0, none⟩)] W fun e w' => ∃ A c, e = .returned (.tuple #[.agg #[.int .i64 kz, .int .i64 ez, .int .i64 nz, .int .i64 lz, .slice A m c], .bool true]) ∧ Hid (RB w' w'.heap.size A D) ∧ Hid (Only W w' g)) := fun W g h => by
      refine (taken_good M hM g W h.out hf).mono fun e w' hh => ?_
      obtain ⟨A, c, he, h2, h3⟩ := hh
      rw [hs] at he h2
      unfold secV at he
      simp only [← hm] at he
      exact ⟨A, c, he, h2, h3⟩
    rw [hs] at HV
    have HM := Lib.hid hm
    clear hM h64 hr hc hcm ho hf hs hm
    go_enter Try.func31, Try.ntmps31
    go_wp2_with (first
      | (go_at_call 70; (with_reducible refine (HO.out _ HB.out).mono ?_); rintro e w1 ⟨A1, c1, rfl, r1, b1⟩; have r1' := r1.out)
      | (go_at_call 32; (with_reducible refine (HF.out _ _ _ r1').mono ?_); rintro e w2 ⟨g, rfl, hg2, cu2, b2⟩; have b12 := chain7 b1 b2)
      | (go_at_call 71; (with_reducible refine (HT.out _ _ cu2).mono ?_); rintro e w3 ⟨A3, c3, rfl, r3, o3⟩; have b3 := below_only b12 o3.out (Nat.le_trans b1.size hg2) b12.size; have b4 := b3.alloc b3.size (.cells #[.int .i64 kz, .int .i64 ez, .int .i64 nz, .int .i64 lz, .slice A3 m c3] 70); obtain ⟨⟨p0, p1, p2, p3, p4⟩, f0, f1, f2, f3, f4⟩ := HC.out _ b4))
    refine bodyPost_ret (v := .tuple #[.agg #[.int .i64 kz, .int .i64 ez, .int .i64 nz, .int .i64 lz, .slice A3 m c3], .int .i64 0]) (by simp [results, Try.results31, go_sem, p0, p1, p2, p3, p4]) rfl ⟨A3, c3, ?_, ?_, below_five (HB.out.trans (b4.mono HB.out.size)) (Nat.le_refl _) _ _ _ _ _⟩
    · rw [HV.out, HM.out]
      rfl
    · rw [HV.out]
      exact rb_five (rb_up7 r3.out ((Below.refl _ _).alloc (Nat.le_refl _) _)) (Blk.below (Blk.new w 70 _) b4 (by simp)) (no8_sec _ _ _ _ _ _ _) _ _ _ _ _
  · have HV : Hid (getS b = (.zero, 5)) := getS_form h64 ho hf
    have HT : Hid (∀ W g, Hid (Cur W g (some M)) → Calls Try.prog 71 #[.pointer (some ⟨g, 0, none⟩)] W fun e w' => ∃ A c, e = .returned (.tuple #[.agg #[.int .i64 0, .int .i64 0, .int .i64 0, .int .i64 0, .slice A 0 c], .bool false]) ∧ Hid (Only W w' g)) := fun W g h => by
      refine (taken_bad M hM g W h.out hf).mono fun e w' hh => ?_
      obtain ⟨A, c, he, h2, h3⟩ := hh
      exact ⟨A, c, he, h3⟩
    clear hM h64 hr hc hcm ho hf
    go_enter Try.func31, Try.ntmps31
    go_wp2_with (first
      | (go_at_call 70; (with_reducible refine (HO.out _ HB.out).mono ?_); rintro e w1 ⟨A1, c1, rfl, r1, b1⟩; have r1' := r1.out)
      | (go_at_call 32; (with_reducible refine (HF.out _ _ _ r1').mono ?_); rintro e w2 ⟨g, rfl, hg2, cu2, b2⟩; have b12 := chain7 b1 b2)
      | (go_at_call 71; (with_reducible refine (HT.out _ _ cu2).mono ?_); rintro e w3 ⟨A3, c3, rfl, o3⟩; have b3 := below_only b12 o3.out (Nat.le_trans b1.size hg2) b12.size; have b4 := b3.alloc b3.size (.cells #[.int .i64 0, .int .i64 0, .int .i64 0, .int .i64 0, .slice A3 0 c3] 70); obtain ⟨⟨p0, p1, p2, p3, p4⟩, f0, f1, f2, f3, f4⟩ := HC.out _ b4))
    refine bodyPost_ret (v := .tuple #[.agg #[.int .i64 0, .int .i64 0, .int .i64 0, .int .i64 0, .slice none 0 0], .int .i64 5]) (by simp [results, Try.results31, go_sem, p0, p1, p2, p3, p4]) rfl ⟨none, 0, by rw [HV.out]; rfl, by rw [HV.out]; exact RB.none_ _ _, below_five (HB.out.trans (b4.mono HB.out.size)) (Nat.le_refl _) _ _ _ _ _⟩
theorem sget_any (b : List UInt8) (A : Option Addr) (c : Nat) (w : World) (hr : RB w w.heap.size A b) (hc : b.length ≤ c) (hcm : c ≤ 9223372036854775807) (hl : b.length ≤ 1000000) :
    Calls Try.prog 31 #[.slice A b.length c] w (GivesS (getS b) w) := by
  by_cases h : b.length = 64
  · rw [h]
    cases ho : openL b with
    | none => exact sget_sum b A c w h hr (by omega) hcm ho
    | some M => exact sget_in b M A c w h hr (by omega) hcm ho
  · exact sget_size b _ A c w rfl h
end Go.Proofs.Ytkockhggnbfahaa
end
section
set_option linter.unusedVariables false
namespace Go.Proofs.Ytkockhggnbfahaa
open Go.RowKit
theorem getU_err {b : List UInt8} (h : (getS b).2 ≠ 0) : getU b = (.zero, (getS b).2) := by unfold getU; rw [if_pos h]
theorem getU_no {b : List UInt8} (h : (getS b).2 = 0) (hn : ¬ ((getS b).1.data.length = 16 ∧ (supOf (getS b).1).may = true ∧ (supOf (getS b).1).sec = (getS b).1)) : getU b = (.zero, 5) := by unfold getU; rw [if_neg (by simpa using h), if_neg hn]
theorem getU_ok {b : List UInt8} (h : (getS b).2 = 0) (hn : (getS b).1.data.length = 16 ∧ (supOf (getS b).1).may = true ∧ (supOf (getS b).1).sec = (getS b).1) : getU b = (supOf (getS b).1, 0) := by unfold getU; rw [if_neg (by simpa using h), if_pos hn]
theorem bytes_same {x y : Sd} (hx : x.may = true) (hy : y.may = true) (h : x.bytes = y.bytes) : x = y := by
  have h1 := sealL_inj h
  rw [← secOf_body x hx, ← secOf_body y hy, h1]
def GivesU (r : Pu × Int) (w : World) (e : Ending) (w' : World) : Prop := e = .returned (.tuple #[supV r.1, .int .i64 r.2]) ∧ Below w.heap.size w w'
theorem below_six {w0 W : World} {B g : Nat} (h : Below B w0 W) (hg : B ≤ g) (v0 v1 v2 v3 v4 v5 : Value) : Below B w0 ((((((W.setCell ⟨g, 0, none⟩ v0).setCell ⟨g, 1, none⟩ v1).setCell ⟨g, 2, none⟩ v2).setCell ⟨g, 3, none⟩ v3).setCell ⟨g, 4, none⟩ v4).setCell ⟨g, 5, none⟩ v5) :=
  (((((h.setCell hg _).setCell hg _).setCell hg _).setCell hg _).setCell hg _).setCell hg _
def ResU (W : World) (g : Nat) : Prop := (W.cell? ⟨g, 0, none⟩ = some (.int .i64 0) ∧ W.cell? ⟨g, 1, none⟩ = some (.int .i64 0) ∧ W.cell? ⟨g, 2, none⟩ = some (.int .i64 0) ∧ W.cell? ⟨g, 3, none⟩ = some (.int .i64 0) ∧ W.cell? ⟨g, 4, none⟩ = some (.int .i64 0) ∧ W.cell? ⟨g, 5, none⟩ = some (.int .i64 0)) ∧ W.frozen? ⟨g, 0, none⟩ = false ∧ W.frozen? ⟨g, 1, none⟩ = false ∧ W.frozen? ⟨g, 2, none⟩ = false ∧ W.frozen? ⟨g, 3, none⟩ = false ∧ W.frozen? ⟨g, 4, none⟩ = false ∧ W.frozen? ⟨g, 5, none⟩ = false
theorem resu_at (w W : World) (hb : Below (w.alloc (.cells #[.int .i64 0, .int .i64 0, .int .i64 0, .int .i64 0, .int .i64 0, .int .i64 0] 25)).heap.size (w.alloc (.cells #[.int .i64 0, .int .i64 0, .int .i64 0, .int .i64 0, .int .i64 0, .int .i64 0] 25)) W) : ResU W w.heap.size := by
  have h0 : Blk W w.heap.size 25 #[.int .i64 0, .int .i64 0, .int .i64 0, .int .i64 0, .int .i64 0, .int .i64 0] := Blk.below (Blk.new w _ _) hb (by simp)
  exact ⟨⟨by rw [h0.cell]; rfl, by rw [h0.cell]; rfl, by rw [h0.cell]; rfl, by rw [h0.cell]; rfl, by rw [h0.cell]; rfl, by rw [h0.cell]; rfl⟩, h0.frozen 0, h0.frozen 1, h0.frozen 2, h0.frozen 3, h0.frozen 4, h0.frozen 5⟩
theorem secv_at (w W : World) (k e n l : Int) (A : Option Addr) (m c : Nat) (hb : Below (w.alloc (.cells #[.int .i64 k, .int .i64 e, .int .i64 n, .int .i64 l, .slice A m c] 70)).heap.size (w.alloc (.cells #[.int .i64 k, .int .i64 e, .int .i64 n, .int .i64 l, .slice A m c] 70)) W) : W.cell? ⟨w.heap.size, 1, none⟩ = some (.int .i64 e) ∧ W.cell? ⟨w.heap.size, 2, none⟩ = some (.int .i64 n) ∧ W.cell? ⟨w.heap.size, 4, none⟩ = some (.slice A m c) := by
  have h0 : Blk W w.heap.size 70 #[.int .i64 k, .int .i64 e, .int .i64 n, .int .i64 l, .slice A m c] := Blk.below (Blk.new w _ _) hb (by simp)
  exact ⟨by rw [h0.cell]; rfl, by rw [h0.cell]; rfl, by rw [h0.cell]; rfl⟩
theorem Try.supBuild0 (w : World) : Sem.run Try.prog (Instr.build 25 #[]) w = .ok (.agg #[.int .i64 0, .int .i64 0, .int .i64 0, .int .i64 0, .int .i64 0, .int .i64 0]) w := by kernel_rfl
theorem Try.supBuild4 (g b l f z o : Int) (w : World) : Sem.run Try.prog (Instr.build 25 #[(0, .int .i64 g), (1, .int .i64 b), (2, .int .i64 l), (3, .agg #[.int .i64 f, .int .i64 z, .int .i64 o])]) w = .ok (.agg #[.int .i64 g, .int .i64 b, .int .i64 l, .int .i64 f, .int .i64 z, .int .i64 o]) w := by kernel_rfl
theorem Try.partBuild (f z o : Int) (w : World) : Sem.run Try.prog (Instr.build 23 #[(0, .int .i64 f), (1, .int .i64 z), (2, .int .i64 o)]) w = .ok (.agg #[.int .i64 f, .int .i64 z, .int .i64 o]) w := by kernel_rfl
theorem Try.aggSec8 (w : World) : (isAgg 70).run Try.prog w = .ok true w := by kernel_rfl
set_option maxRecDepth 100000 in
set_option maxHeartbeats 4000000 in
theorem rsget_out (b : List UInt8) (q : Nat) (A : Option Addr) (c : Nat) (w : World) (hq : q = b.length) (hr : RB w w.heap.size A b) (hc : q ≤ c) (hcm : c ≤ 9223372036854775807) (h : (getS b).2 ≠ 0 ∨ ((getS b).2 = 0 ∧ (getS b).1.data.length ≠ 16)) :
    Calls Try.prog 12 #[.slice A q c] w (GivesU (getU b) w) := by
  obtain ⟨x, hx⟩ : ∃ x, x = (getS b).1 := ⟨_, rfl⟩
  obtain ⟨z, hz⟩ : ∃ z, z = (getS b).2 := ⟨_, rfl⟩
  have HG : Hid (∀ W, Below w.heap.size w W → Calls Try.prog 40 #[.slice A q c] W fun e w' => ∃ A' c', e = .returned (.tuple #[secV x A' c', .int .i64 z]) ∧ Below W.heap.size W w') := fun W hb => by
    have h1 : Calls Try.prog 40 #[.slice A q c] W (GivesSc (getS b) W) := by rw [hq]; exact rget_anyc b A c W (rb_up7 hr hb) (by omega) hcm
    refine h1.mono fun e w' hh => ?_
    obtain ⟨A', c', he, _, hb⟩ := hh
    rw [← hx, ← hz] at he
    exact ⟨A', c', he, hb⟩
  have HB : Hid (Below w.heap.size w (w.alloc (.cells #[.int .i64 0, .int .i64 0, .int .i64 0, .int .i64 0, .int .i64 0, .int .i64 0] 25))) := (Below.refl _ _).alloc (Nat.le_refl _) _
  have HC := Lib.hid (fun W hb => resu_at w W hb)
  have nb := fun w' => Try.supBuild0 w'
  have a24 := fun w' => Try.aggSec8 w'
  have s24 := fun w' => Try.sizeSec w'
  have a25 := fun w' => Try.aggSup w'
  have s25 := fun w' => Try.sizeSup w'
  rw [← hx, ← hz] at h
  have HV : Hid (getU b = (.zero, if z ≠ 0 then z else 5)) := by
    show _ = _
    by_cases h0 : z = 0
    · rw [if_neg (by simpa using h0)]
      exact getU_no (by rw [← hz]; exact h0) (fun hh => by rw [← hx] at hh; rcases h with h1 | h1; exact h1 h0; exact h1.2 hh.1)
    · rw [if_pos h0, hz]; exact getU_err (by rw [← hz]; exact h0)
  clear hq hr hc hcm hx hz
  obtain ⟨k, ep, n, l, D⟩ := x
  obtain ⟨m, hm⟩ : ∃ m, m = D.length := ⟨_, rfl⟩
  unfold secV at HG
  simp only at HG h
  rw [← hm] at HG h
  clear hm
  by_cases h0 : z = 0
  · subst h0
    have hm16 : m ≠ 16 := by rcases h with h1 | h1; exact absurd rfl h1; exact h1.2
    have d0 : (((m : Int) != 16)) = true := by simp; omega
    have d1 : ((m : Int) == 16) = false := by simp; omega
    clear h hm16
    go_enter Try.func12, Try.ntmps12
    go_wp2_with (go_at_call 40; (with_reducible refine (HG.out _ HB.out).mono ?_); rintro e w1 ⟨A1, c1, rfl, hb1⟩; have hb1a := hb1.alloc hb1.size (.cells #[.int .i64 k, .int .i64 ep, .int .i64 n, .int .i64 l, .slice A1 m c1] 70); obtain ⟨⟨p0, p1, p2, p3, p4, p5⟩, f0, f1, f2, f3, f4, f5⟩ := HC.out _ hb1a; have b1 := chain7 HB.out hb1a)
    refine bodyPost_ret (v := .tuple #[.agg #[.int .i64 0, .int .i64 0, .int .i64 0, .int .i64 0, .int .i64 0, .int .i64 0], .int .i64 5]) (by simp [results, Try.results12, go_sem, p0, p1, p2, p3, p4, p5]) rfl ⟨by rw [HV.out]; rfl, below_six b1 (Nat.le_refl _) _ _ _ _ _ _⟩
  · have z0 : (z != 0) = true := by simpa using h0
    have HV2 : Hid (getU b = (.zero, z)) := by show _ = _; rw [HV.out, if_pos h0]
    clear h h0
    go_enter Try.func12, Try.ntmps12
    go_wp2_with (go_at_call 40; (with_reducible refine (HG.out _ HB.out).mono ?_); rintro e w1 ⟨A1, c1, rfl, hb1⟩; have hb1a := hb1.alloc hb1.size (.cells #[.int .i64 k, .int .i64 ep, .int .i64 n, .int .i64 l, .slice A1 m c1] 70); obtain ⟨⟨p0, p1, p2, p3, p4, p5⟩, f0, f1, f2, f3, f4, f5⟩ := HC.out _ hb1a; have b1 := chain7 HB.out hb1a)
    refine bodyPost_ret (v := .tuple #[.agg #[.int .i64 0, .int .i64 0, .int .i64 0, .int .i64 0, .int .i64 0, .int .i64 0], .int .i64 z]) (by simp [results, Try.results12, go_sem, p0, p1, p2, p3, p4, p5]) rfl ⟨by rw [HV2.out]; rfl, below_six b1 (Nat.le_refl _) _ _ _ _ _ _⟩
end Go.Proofs.Ytkockhggnbfahaa
end
