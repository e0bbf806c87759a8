/- The walk of the program's Get of a sector (layer 7). -/
import Derived.Test.YtepeoggacmaenaaSectPTaken
import Derived.Test.YtepeoggacmaenaaCrcOpen
import Derived.Test.YtepeoggacmaenaaSectMem
set_option linter.unusedVariables false
set_option linter.unusedSimpArgs false
namespace Go.Proofs.Ytepeoggacmaenaa
open Go.RowKit

theorem taken_bad (M : List UInt8) (hM : M.length = 60) (g : Nat) (w : World) (h : Cur w g (some M)) (hf : ¬ Formed M) :
    Calls Try.prog 27 #[.pointer (some ⟨g, 0, none⟩)] w (GivesT (.zero, false) g w) := by
  by_cases h48 : (M.getD 1 0).toNat ≤ 48
  · cases hm : Sd.may ⟨((M.getD 0 0).toNat : Int), capZ (unfixL ((M.drop 4).take 4)), capZ (unfixL ((M.drop 8).take 4)), (unfixL ((M.drop 2).take 2) : Int), (M.drop 12).take (M.getD 1 0).toNat⟩ with
    | false => exact taken_no M hM g w h h48 hm
    | true =>
      refine taken_odd M hM g w h h48 hm fun hz => hf ?_
      obtain ⟨a1, a2, a3, a4, a5, a6, a7, a8, a9⟩ := (Sd.may_iff _).1 hm
      simp only at a1 a2 a3 a4 a5 a6 a7 a8 a9
      refine ⟨by omega, h48, ?_, ?_, by rw [← List.drop_drop]; exact hz⟩
      · unfold capZ at a3
        split at a3
        · assumption
        · omega
      · unfold capZ at a5
        split at a5
        · assumption
        · omega
  · exact taken_long M hM g w h (by omega)
theorem taken_good (M : List UInt8) (hM : M.length = 60) (g : Nat) (w : World) (h : Cur w g (some M)) (hf : Formed M) :
    Calls Try.prog 27 #[.pointer (some ⟨g, 0, none⟩)] w (GivesT (secOf M, true) g w) := by
  obtain ⟨h1, h2, h3, h4, h5⟩ := hf
  have hlt := (M.getD 0 0).toNat_lt
  have e1 : capZ (unfixL ((M.drop 4).take 4)) = (unfixL ((M.drop 4).take 4) : Int) := by unfold capZ; rw [if_pos h3]
  have e2 : capZ (unfixL ((M.drop 8).take 4)) = (unfixL ((M.drop 8).take 4) : Int) := by unfold capZ; rw [if_pos h4]
  have l2 := unfixL_lt ((M.drop 2).take 2)
  have l3 : ((M.drop 2).take 2).length = 2 := by simp; omega
  rw [l3] at l2
  have key := taken_ok M hM g w h h2 (by
    rw [Sd.may_iff, e1, e2]
    have : (256 : Nat) ^ 2 = 65536 := rfl
    refine ⟨?_, ?_, ?_, ?_, ?_, ?_, ?_, ?_, ?_⟩
    · show (1 : Int) ≤ ((M.getD 0 0).toNat : Int); omega
    · show ((M.getD 0 0).toNat : Int) ≤ 255; omega
    · show (0 : Int) ≤ (unfixL ((M.drop 4).take 4) : Int); omega
    · show (unfixL ((M.drop 4).take 4) : Int) ≤ 2147483647; omega
    · show (0 : Int) ≤ (unfixL ((M.drop 8).take 4) : Int); omega
    · show (unfixL ((M.drop 8).take 4) : Int) ≤ 2147483647; omega
    · show (0 : Int) ≤ (unfixL ((M.drop 2).take 2) : Int); omega
    · show (unfixL ((M.drop 2).take 2) : Int) ≤ 65535; omega
    · show ((M.drop 12).take (M.getD 1 0).toNat).length ≤ 48
      rw [List.length_take]; omega) (by rw [List.drop_drop]; exact h5)
  rw [e1, e2] at key
  exact key
set_option maxRecDepth 100000 in
set_option maxHeartbeats 4000000 in
theorem sget_size (b : List UInt8) (n : Nat) (A : Option Addr) (c : Nat) (w : World) (hn : n = b.length) (h : n ≠ 64) :
    Calls Try.prog 10 #[.slice A n c] w (GivesS (getS b) w) := by
  have HV : Hid (getS b = (.zero, 11)) := getS_size (by omega)
  have nb := fun w' => Try.secBuild0 w'
  have a24 := fun w' => Try.aggSec w'
  have s24 := fun w' => Try.sizeSec w'
  have d0 : (((n : Int) != 64)) = true := by simp; omega
  have d1 : ((n : Int) == 64) = false := by simp; omega
  clear hn h
  go_enter Try.func10, Try.ntmps10
  go_wp2
  refine bodyPost_ret (v := .tuple #[.agg #[.int .i64 0, .int .i64 0, .int .i64 0, .int .i64 0, .slice none 0 0], .int .i64 11]) (by simp [results, Try.results10, go_sem]) rfl ⟨none, 0, by rw [HV.out]; rfl, by rw [HV.out]; exact RB.none_ _ _, (Below.refl _ _).alloc (Nat.le_refl _) _⟩
set_option maxRecDepth 100000 in
set_option maxHeartbeats 4000000 in
theorem sget_sum (b : List UInt8) (A : Option Addr) (c : Nat) (w : World) (h64 : b.length = 64) (hr : RB w w.heap.size A b) (hc : 64 ≤ c) (hcm : c ≤ 9223372036854775807) (ho : openL b = none) :
    Calls Try.prog 10 #[.slice A 64 c] w (GivesS (getS b) w) := by
  have HV : Hid (getS b = (.zero, 12)) := getS_sum h64 ho
  have HO : Hid (∀ W, Below w.heap.size w W → Calls Try.prog 26 #[.slice A 64 c] W fun e w' => e = .returned (.tuple #[.slice none 0 0, .int .i64 12]) ∧ Below W.heap.size W w') := fun W hb => by
    have := open_any b A c _ W (rb_up7 hr hb) (by omega) hcm (by omega)
    rw [ho, h64] at this
    exact this
  have HB : Hid (Below w.heap.size w (w.alloc (.cells #[.int .i64 0, .int .i64 0, .int .i64 0, .int .i64 0, .slice none 0 0] 24))) := (Below.refl _ _).alloc (Nat.le_refl _) _
  have HC := Lib.hid (fun W hb => res_at w W hb)
  have nb := fun w' => Try.secBuild0 w'
  have a24 := fun w' => Try.aggSec w'
  have s24 := fun w' => Try.sizeSec w'
  clear h64 hr hc hcm ho
  go_enter Try.func10, Try.ntmps10
  go_wp2_with (go_at_call 26; (with_reducible refine (HO.out _ HB.out).mono ?_); rintro e w1 ⟨rfl, hb1⟩; obtain ⟨⟨p0, p1, p2, p3, p4⟩, f0, f1, f2, f3, f4⟩ := HC.out _ hb1)
  refine bodyPost_ret (v := .tuple #[.agg #[.int .i64 0, .int .i64 0, .int .i64 0, .int .i64 0, .slice none 0 0], .int .i64 12]) (by simp [results, Try.results10, go_sem, p0, p1, p2, p3, p4]) rfl ⟨none, 0, by rw [HV.out]; rfl, by rw [HV.out]; exact RB.none_ _ _, below_five (chain7 HB.out hb1) (Nat.le_refl _) _ _ _ _ _⟩
set_option maxRecDepth 100000 in
set_option maxHeartbeats 4000000 in
theorem sget_in (b M : List UInt8) (A : Option Addr) (c : Nat) (w : World) (h64 : b.length = 64) (hr : RB w w.heap.size A b) (hc : 64 ≤ c) (hcm : c ≤ 9223372036854775807) (ho : openL b = some M) :
    Calls Try.prog 10 #[.slice A 64 c] w (GivesS (getS b) w) := by
  have hM : M.length = 60 := by have := (openL_some ho).2; omega
  have HO : Hid (∀ W, Below w.heap.size w W → Calls Try.prog 26 #[.slice A 64 c] W fun e w' => ∃ A c, e = .returned (.tuple #[.slice A 60 c, .int .i64 0]) ∧ Hid (RB w' w'.heap.size A M) ∧ Below W.heap.size W w') := fun W hb => by
    have := open_any b A c _ W (rb_up7 hr hb) (by omega) hcm (by omega)
    rw [ho, h64] at this
    refine this.mono fun e w' hh => ?_
    obtain ⟨A, c, he, h2, h3⟩ := hh
    rw [hM] at he
    exact ⟨A, c, he, own_rb h2, h3⟩
  have HF : Hid (∀ W (A : Option Addr) (c : Nat), RB W W.heap.size A M → Calls Try.prog 28 #[.slice A 60 c] W fun e w' => ∃ g, e = .returned (.pointer (some ⟨g, 0, none⟩)) ∧ W.heap.size ≤ g ∧ Hid (Cur w' g (some M)) ∧ Below W.heap.size W w') := fun W A c h => by
    have := from_any M A c W h (by omega)
    rw [hM] at this
    exact this
  have HB : Hid (Below w.heap.size w (w.alloc (.cells #[.int .i64 0, .int .i64 0, .int .i64 0, .int .i64 0, .slice none 0 0] 24))) := (Below.refl _ _).alloc (Nat.le_refl _) _
  have HC := Lib.hid (fun W hb => res_at w W hb)
  have nb := fun w' => Try.secBuild0 w'
  have a24 := fun w' => Try.aggSec w'
  have s24 := fun w' => Try.sizeSec w'
  by_cases hf : Formed M
  · have HV : Hid (getS b = (secOf M, 0)) := getS_ok h64 ho hf
    rcases hs : secOf M with ⟨kz, ez, nz, lz, D⟩
    obtain ⟨m, hm⟩ : ∃ m, m = D.length := ⟨_, rfl⟩
    have HT : Hid (∀ W g, Hid (Cur W g (some M)) → Calls Try.prog 27 #[.pointer (some ⟨g, 0, none⟩)] W fun e w' => ∃ A c, e = .returned (.tuple #[.agg #[.int .i64 kz, .int .i64 ez, .int .i64 nz, .int .i64 lz, .slice A m c], .bool true]) ∧ Hid (RB w' w'.heap.size A D) ∧ Hid (Only W w' g)) := fun W g h => by
      refine (taken_good M hM g W h.out hf).mono fun e w' hh => ?_
      obtain ⟨A, c, he, h2, h3⟩ := hh
      rw [hs] at he h2
      unfold secV at he
      simp only [← hm] at he
      exact ⟨A, c, he, h2, h3⟩
    rw [hs] at HV
    have HM := Lib.hid hm
    clear hM h64 hr hc hcm ho hf hs hm
    go_enter Try.func10, Try.ntmps10
    go_wp2_with (first
      | (go_at_call 26; (with_reducible refine (HO.out _ HB.out).mono ?_); rintro e w1 ⟨A1, c1, rfl, r1, b1⟩; have r1' := r1.out)
      | (go_at_call 28; (with_reducible refine (HF.out _ _ _ r1').mono ?_); rintro e w2 ⟨g, rfl, hg2, cu2, b2⟩; have b12 := chain7 b1 b2)
      | (go_at_call 27; (with_reducible refine (HT.out _ _ cu2).mono ?_); rintro e w3 ⟨A3, c3, rfl, r3, o3⟩; have b3 := below_only b12 o3.out (Nat.le_trans b1.size hg2) b12.size; have b4 := b3.alloc b3.size (.cells #[.int .i64 kz, .int .i64 ez, .int .i64 nz, .int .i64 lz, .slice A3 m c3] 24); obtain ⟨⟨p0, p1, p2, p3, p4⟩, f0, f1, f2, f3, f4⟩ := HC.out _ b4))
    refine bodyPost_ret (v := .tuple #[.agg #[.int .i64 kz, .int .i64 ez, .int .i64 nz, .int .i64 lz, .slice A3 m c3], .int .i64 0]) (by simp [results, Try.results10, go_sem, p0, p1, p2, p3, p4]) rfl ⟨A3, c3, ?_, ?_, below_five (HB.out.trans (b4.mono HB.out.size)) (Nat.le_refl _) _ _ _ _ _⟩
    · rw [HV.out, HM.out]
      rfl
    · rw [HV.out]
      exact rb_five (rb_up7 r3.out ((Below.refl _ _).alloc (Nat.le_refl _) _)) (Blk.below (Blk.new w 24 _) b4 (by simp)) (no8_sec _ _ _ _ _ _ _) _ _ _ _ _
  · have HV : Hid (getS b = (.zero, 5)) := getS_form h64 ho hf
    have HT : Hid (∀ W g, Hid (Cur W g (some M)) → Calls Try.prog 27 #[.pointer (some ⟨g, 0, none⟩)] W fun e w' => ∃ A c, e = .returned (.tuple #[.agg #[.int .i64 0, .int .i64 0, .int .i64 0, .int .i64 0, .slice A 0 c], .bool false]) ∧ Hid (Only W w' g)) := fun W g h => by
      refine (taken_bad M hM g W h.out hf).mono fun e w' hh => ?_
      obtain ⟨A, c, he, h2, h3⟩ := hh
      exact ⟨A, c, he, h3⟩
    clear hM h64 hr hc hcm ho hf
    go_enter Try.func10, Try.ntmps10
    go_wp2_with (first
      | (go_at_call 26; (with_reducible refine (HO.out _ HB.out).mono ?_); rintro e w1 ⟨A1, c1, rfl, r1, b1⟩; have r1' := r1.out)
      | (go_at_call 28; (with_reducible refine (HF.out _ _ _ r1').mono ?_); rintro e w2 ⟨g, rfl, hg2, cu2, b2⟩; have b12 := chain7 b1 b2)
      | (go_at_call 27; (with_reducible refine (HT.out _ _ cu2).mono ?_); rintro e w3 ⟨A3, c3, rfl, o3⟩; have b3 := below_only b12 o3.out (Nat.le_trans b1.size hg2) b12.size; have b4 := b3.alloc b3.size (.cells #[.int .i64 0, .int .i64 0, .int .i64 0, .int .i64 0, .slice A3 0 c3] 24); obtain ⟨⟨p0, p1, p2, p3, p4⟩, f0, f1, f2, f3, f4⟩ := HC.out _ b4))
    refine bodyPost_ret (v := .tuple #[.agg #[.int .i64 0, .int .i64 0, .int .i64 0, .int .i64 0, .slice none 0 0], .int .i64 5]) (by simp [results, Try.results10, go_sem, p0, p1, p2, p3, p4]) rfl ⟨none, 0, by rw [HV.out]; rfl, by rw [HV.out]; exact RB.none_ _ _, below_five (HB.out.trans (b4.mono HB.out.size)) (Nat.le_refl _) _ _ _ _ _⟩
/-- The program's Get. -/
theorem sget_any (b : List UInt8) (A : Option Addr) (c : Nat) (w : World) (hr : RB w w.heap.size A b) (hc : b.length ≤ c) (hcm : c ≤ 9223372036854775807) (hl : b.length ≤ 1000000) :
    Calls Try.prog 10 #[.slice A b.length c] w (GivesS (getS b) w) := by
  by_cases h : b.length = 64
  · rw [h]
    cases ho : openL b with
    | none => exact sget_sum b A c w h hr (by omega) hcm ho
    | some M => exact sget_in b M A c w h hr (by omega) hcm ho
  · exact sget_size b _ A c w rfl h
end Go.Proofs.Ytepeoggacmaenaa
