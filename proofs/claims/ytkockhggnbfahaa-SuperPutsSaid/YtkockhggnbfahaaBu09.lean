/- Lemmas under the proofs of this place: SupRCheck, SupBest, SupRZeros. No statement is proved here. -/
import Derived.Test.YtkockhggnbfahaaBu05
import Derived.Test.YtkockhggnbfahaaBu04
import Derived.Test.YtkockhggnbfahaaBu01
import Derived.Lib.Hide
section
set_option linter.unusedVariables false
namespace Go.Proofs.Ytkockhggnbfahaa
open Go.RowKit
def supV (s : Pu) : Value := .agg #[.int .i64 s.gen, .int .i64 s.blocks, .int .i64 s.log, .int .i64 s.first, .int .i64 s.size, .int .i64 s.owner]
theorem Try.aggPart (w : World) : (isAgg 23).run Try.prog w = .ok true w := by kernel_rfl
theorem Try.sizePart (w : World) : (sizeOf 23).run Try.prog w = .ok 3 w := by kernel_rfl
theorem Try.aggSup (w : World) : (isAgg 25).run Try.prog w = .ok true w := by kernel_rfl
theorem Try.sizeSup (w : World) : (sizeOf 25).run Try.prog w = .ok 6 w := by kernel_rfl
theorem Try.partZero (w : World) : Sem.run Try.prog (Instr.build 23 #[]) w = .ok (.agg #[.int .i64 0, .int .i64 0, .int .i64 0]) w := by kernel_rfl
theorem Try.partEq (a b c : Int) (v : Bool) (W : World) (h : decide (a = 0 ∧ b = 0 ∧ c = 0) = v) : Sem.run Try.prog (binOp .eql 23 (.agg #[.int .i64 a, .int .i64 b, .int .i64 c]) (.agg #[.int .i64 0, .int .i64 0, .int .i64 0])) W = .ok (.bool v) W := by
  subst h
  simp [go_sem]
  by_cases h1 : a = 0 <;> by_cases h2 : b = 0 <;> by_cases h3 : c = 0 <;> simp [h1, h2, h3]
set_option maxRecDepth 100000 in
set_option maxHeartbeats 4000000 in
theorem rcheck_any (s : Pu) (w : World) : Calls Try.prog 23 #[supV s] w fun e w' => e = .returned (.bool s.may) ∧ Below w.heap.size w w' := by
  obtain ⟨g, b, l, fi, si, ow⟩ := s
  unfold supV
  have HS : Hid (Pu.may ⟨g, b, l, fi, si, ow⟩ = decide (1 ≤ g ∧ g ≤ 2147483647 ∧ 16 ≤ b ∧ b ≤ 1024 ∧ 1 ≤ l ∧ l ≤ g ∧ ((fi = 0 ∧ si = 0 ∧ ow = 0) ∨ (2 ≤ fi ∧ fi < b ∧ 1 ≤ si ∧ si ≤ 262144 ∧ 1 ≤ ow ∧ ow ≤ g)))) := by show _ = _; unfold Pu.may; congr 1
  have HB : Hid (Below w.heap.size w (w.alloc (.cells #[.int .i64 g, .int .i64 b, .int .i64 l, .int .i64 fi, .int .i64 si, .int .i64 ow] 25))) := (Below.refl _ _).alloc (Nat.le_refl _) _
  have HB2 : Hid (∀ o, Below w.heap.size w ((w.alloc (.cells #[.int .i64 g, .int .i64 b, .int .i64 l, .int .i64 fi, .int .i64 si, .int .i64 ow] 25)).alloc o)) := fun o => ((Below.refl _ _).alloc (Nat.le_refl _) _).alloc (by simp) _
  have a23 := fun w' => Try.aggPart w'
  have s23 := fun w' => Try.sizePart w'
  have n23 := fun w' => Try.partZero w'
  simp only
  by_cases h0 : g < 1
  · have HM : Hid (Pu.may ⟨g, b, l, fi, si, ow⟩ = false) := by show _ = _; rw [HS.out]; exact decide_eq_false (by omega)
    have d0 : decide (g < 1) = true := decide_eq_true h0
    clear HS
    go_enter Try.func23, Try.ntmps23
    go_wp2
    go_ret
    rw [HM.out]
    exact ⟨rfl, HB.out⟩
  have d0 : decide (g < 1) = false := decide_eq_false h0
  by_cases h1 : 2147483647 < g
  · have HM : Hid (Pu.may ⟨g, b, l, fi, si, ow⟩ = false) := by show _ = _; rw [HS.out]; exact decide_eq_false (by omega)
    have d1 : decide (2147483647 < g) = true := decide_eq_true h1
    have e1 : decide (g > 2147483647) = true := decide_eq_true h1
    clear HS
    go_enter Try.func23, Try.ntmps23
    go_wp2
    go_ret
    rw [HM.out]
    exact ⟨rfl, HB.out⟩
  have d1 : decide (2147483647 < g) = false := decide_eq_false h1
  have e1 : decide (g > 2147483647) = false := decide_eq_false h1
  by_cases h2 : b < 16
  · have HM : Hid (Pu.may ⟨g, b, l, fi, si, ow⟩ = false) := by show _ = _; rw [HS.out]; exact decide_eq_false (by omega)
    have d2 : decide (b < 16) = true := decide_eq_true h2
    clear HS
    go_enter Try.func23, Try.ntmps23
    go_wp2
    go_ret
    rw [HM.out]
    exact ⟨rfl, HB.out⟩
  have d2 : decide (b < 16) = false := decide_eq_false h2
  by_cases h3 : 1024 < b
  · have HM : Hid (Pu.may ⟨g, b, l, fi, si, ow⟩ = false) := by show _ = _; rw [HS.out]; exact decide_eq_false (by omega)
    have d3 : decide (1024 < b) = true := decide_eq_true h3
    have e3 : decide (b > 1024) = true := decide_eq_true h3
    clear HS
    go_enter Try.func23, Try.ntmps23
    go_wp2
    go_ret
    rw [HM.out]
    exact ⟨rfl, HB.out⟩
  have d3 : decide (1024 < b) = false := decide_eq_false h3
  have e3 : decide (b > 1024) = false := decide_eq_false h3
  by_cases h4 : l < 1
  · have HM : Hid (Pu.may ⟨g, b, l, fi, si, ow⟩ = false) := by show _ = _; rw [HS.out]; exact decide_eq_false (by omega)
    have d4 : decide (l < 1) = true := decide_eq_true h4
    clear HS
    go_enter Try.func23, Try.ntmps23
    go_wp2
    go_ret
    rw [HM.out]
    exact ⟨rfl, HB.out⟩
  have d4 : decide (l < 1) = false := decide_eq_false h4
  by_cases h5 : g < l
  · have HM : Hid (Pu.may ⟨g, b, l, fi, si, ow⟩ = false) := by show _ = _; rw [HS.out]; exact decide_eq_false (by omega)
    have d5 : decide (g < l) = true := decide_eq_true h5
    have e5 : decide (l > g) = true := decide_eq_true h5
    clear HS
    go_enter Try.func23, Try.ntmps23
    go_wp2
    go_ret
    rw [HM.out]
    exact ⟨rfl, HB.out⟩
  have d5 : decide (g < l) = false := decide_eq_false h5
  have e5 : decide (l > g) = false := decide_eq_false h5
  by_cases hz : fi = 0 ∧ si = 0 ∧ ow = 0
  · have HM : Hid (Pu.may ⟨g, b, l, fi, si, ow⟩ = true) := by show _ = _; rw [HS.out]; exact decide_eq_true (by omega)
    have q0 := fun w' => Try.partEq fi si ow true w' (by simp [hz.1, hz.2.1, hz.2.2])
    clear hz
    clear HS
    go_enter Try.func23, Try.ntmps23
    go_wp2
    go_ret
    rw [HM.out]
    exact ⟨rfl, HB2.out _⟩
  have q0 := fun w' => Try.partEq fi si ow false w' (by rw [decide_eq_false_iff_not]; exact hz)
  by_cases h6 : 2 ≤ fi
  rotate_left
  · have HM : Hid (Pu.may ⟨g, b, l, fi, si, ow⟩ = false) := by show _ = _; rw [HS.out]; exact decide_eq_false (by omega)
    have d6 : decide (2 ≤ fi) = false := decide_eq_false h6
    have e6 : decide (fi ≥ 2) = false := decide_eq_false h6
    clear hz
    clear HS
    go_enter Try.func23, Try.ntmps23
    go_wp2
    go_ret
    rw [HM.out]
    exact ⟨rfl, HB2.out _⟩
  have d6 : decide (2 ≤ fi) = true := decide_eq_true h6
  have e6 : decide (fi ≥ 2) = true := decide_eq_true h6
  by_cases h7 : fi < b
  rotate_left
  · have HM : Hid (Pu.may ⟨g, b, l, fi, si, ow⟩ = false) := by show _ = _; rw [HS.out]; exact decide_eq_false (by omega)
    have d7 : decide (fi < b) = false := decide_eq_false h7
    clear hz
    clear HS
    go_enter Try.func23, Try.ntmps23
    go_wp2
    go_ret
    rw [HM.out]
    exact ⟨rfl, HB2.out _⟩
  have d7 : decide (fi < b) = true := decide_eq_true h7
  by_cases h8 : 1 ≤ si
  rotate_left
  · have HM : Hid (Pu.may ⟨g, b, l, fi, si, ow⟩ = false) := by show _ = _; rw [HS.out]; exact decide_eq_false (by omega)
    have d8 : decide (1 ≤ si) = false := decide_eq_false h8
    have e8 : decide (si ≥ 1) = false := decide_eq_false h8
    clear hz
    clear HS
    go_enter Try.func23, Try.ntmps23
    go_wp2
    go_ret
    rw [HM.out]
    exact ⟨rfl, HB2.out _⟩
  have d8 : decide (1 ≤ si) = true := decide_eq_true h8
  have e8 : decide (si ≥ 1) = true := decide_eq_true h8
  by_cases h9 : si ≤ 262144
  rotate_left
  · have HM : Hid (Pu.may ⟨g, b, l, fi, si, ow⟩ = false) := by show _ = _; rw [HS.out]; exact decide_eq_false (by omega)
    have d9 : decide (si ≤ 262144) = false := decide_eq_false h9
    clear hz
    clear HS
    go_enter Try.func23, Try.ntmps23
    go_wp2
    go_ret
    rw [HM.out]
    exact ⟨rfl, HB2.out _⟩
  have d9 : decide (si ≤ 262144) = true := decide_eq_true h9
  by_cases h10 : 1 ≤ ow
  rotate_left
  · have HM : Hid (Pu.may ⟨g, b, l, fi, si, ow⟩ = false) := by show _ = _; rw [HS.out]; exact decide_eq_false (by omega)
    have d10 : decide (1 ≤ ow) = false := decide_eq_false h10
    have e10 : decide (ow ≥ 1) = false := decide_eq_false h10
    clear hz
    clear HS
    go_enter Try.func23, Try.ntmps23
    go_wp2
    go_ret
    rw [HM.out]
    exact ⟨rfl, HB2.out _⟩
  have d10 : decide (1 ≤ ow) = true := decide_eq_true h10
  have e10 : decide (ow ≥ 1) = true := decide_eq_true h10
  by_cases h11 : ow ≤ g
  rotate_left
  · have HM : Hid (Pu.may ⟨g, b, l, fi, si, ow⟩ = false) := by show _ = _; rw [HS.out]; exact decide_eq_false (by omega)
    have d11 : decide (ow ≤ g) = false := decide_eq_false h11
    clear hz
    clear HS
    go_enter Try.func23, Try.ntmps23
    go_wp2
    go_ret
    rw [HM.out]
    exact ⟨rfl, HB2.out _⟩
  have d11 : decide (ow ≤ g) = true := decide_eq_true h11
  have HM : Hid (Pu.may ⟨g, b, l, fi, si, ow⟩ = true) := by show _ = _; rw [HS.out]; exact decide_eq_true (by omega)
  clear hz
  clear HS
  go_enter Try.func23, Try.ntmps23
  go_wp2
  go_ret
  rw [HM.out]
  exact ⟨rfl, HB2.out _⟩
end Go.Proofs.Ytkockhggnbfahaa
end
section
set_option linter.unusedVariables false
namespace Go.Proofs.Ytkockhggnbfahaa
def stepU (n k : Int) (b : List UInt8) (s : Pu) : Pu := if (getU (b.take 64)).2 = 0 ∧ (getU (b.take 64)).1.blocks = n ∧ (getU (b.take 64)).1.gen % 2 = k ∧ s.gen < (getU (b.take 64)).1.gen then (getU (b.take 64)).1 else s
def bestK (n : Int) (b0 b1 : List UInt8) : Nat → Pu
  | 0 => .zero
  | 1 => stepU n 0 b0 .zero
  | _ => stepU n 1 b1 (stepU n 0 b0 .zero)
def blankK (b0 b1 : List UInt8) : Nat → Bool
  | 0 => true
  | 1 => b0.all (· == 0)
  | _ => b0.all (· == 0) && b1.all (· == 0)
theorem getU_gen {b : List UInt8} (h : (getU b).2 = 0) : 1 ≤ (getU b).1.gen := ((Pu.may_iff _).1 (getU_bytes h).1).1
theorem step_slot (n k : Int) (b : List UInt8) (s : Pu) : stepU n k b s = match slotU n k b with
    | some t => if s.gen < t.gen then t else s
    | none => s := by
  unfold stepU slotU
  by_cases h : (getU (b.take 64)).2 = 0 ∧ (getU (b.take 64)).1.blocks = n ∧ (getU (b.take 64)).1.gen % 2 = k
  · rw [if_pos h]
    simp only
    by_cases h2 : s.gen < (getU (b.take 64)).1.gen
    · rw [if_pos ⟨h.1, h.2.1, h.2.2, h2⟩, if_pos h2]
    · rw [if_neg (fun hh => h2 hh.2.2.2), if_neg h2]
  · rw [if_neg h, if_neg (fun hh => h ⟨hh.1, hh.2.1, hh.2.2.1⟩)]
theorem slot_gen {n k : Int} {b : List UInt8} {t : Pu} (h : slotU n k b = some t) : 1 ≤ t.gen := by
  unfold slotU at h
  split at h
  · rename_i h1
    injection h with h
    rw [← h]; exact getU_gen h1.1
  · cases h
theorem best_end (n : Int) (b0 b1 : List UInt8) : bestU n b0 b1 = if 0 < (bestK n b0 b1 2).gen then (bestK n b0 b1 2, 0) else if blankK b0 b1 2 = true then (bestK n b0 b1 2, 6) else (bestK n b0 b1 2, 13) := by
  show _ = if 0 < (stepU n 1 b1 (stepU n 0 b0 .zero)).gen then (stepU n 1 b1 (stepU n 0 b0 .zero), 0) else if (b0.all (· == 0) && b1.all (· == 0)) = true then (stepU n 1 b1 (stepU n 0 b0 .zero), 6) else (stepU n 1 b1 (stepU n 0 b0 .zero), 13)
  rw [step_slot n 1 b1, step_slot n 0 b0]
  unfold bestU
  cases h0 : slotU n 0 b0 with
  | none =>
    cases h1 : slotU n 1 b1 with
    | none =>
      have hz : ¬ (0 : Int) < Pu.zero.gen := by decide
      simp only
      rw [if_neg hz]
    | some t =>
      have := slot_gen h1
      simp only
      rw [if_pos (show Pu.zero.gen < t.gen by show (0 : Int) < t.gen; omega), if_pos (by omega)]
  | some s =>
    have hs := slot_gen h0
    cases h1 : slotU n 1 b1 with
    | none =>
      simp only
      rw [if_pos (show Pu.zero.gen < s.gen by show (0 : Int) < s.gen; omega), if_pos (by omega)]
    | some t =>
      have ht := slot_gen h1
      simp only
      rw [if_pos (show Pu.zero.gen < s.gen by show (0 : Int) < s.gen; omega)]
      by_cases hg : s.gen < t.gen
      · rw [if_pos hg, if_pos (show t.gen > s.gen from hg), if_pos (by omega)]
      · rw [if_neg hg, if_neg (show ¬ t.gen > s.gen from hg), if_pos (by omega)]
end Go.Proofs.Ytkockhggnbfahaa
end
section
set_option linter.unusedVariables false
namespace Go.Proofs.Ytkockhggnbfahaa
open Go.RowKit
theorem all_take (b : List UInt8) (k : Nat) (h : k < b.length) : (b.take (k + 1)).all (· == 0) = ((b.take k).all (· == 0) && (b[k] == 0)) := by
  rw [List.take_succ_eq_append_getElem h, List.all_append]
  simp
set_option maxRecDepth 100000 in
set_option maxHeartbeats 2000000 in
theorem zeros_any (b : List UInt8) (n : Nat) (A : Option Addr) (c : Nat) (w : World) (hn : n = b.length) (hr : RB w w.heap.size A b) (hl : n ≤ 1000000) :
    Calls Try.prog 55 #[.slice A n c] w fun e w' => e = .returned (.bool (b.all (· == 0))) ∧ w = w' := by
  have HR := Lib.hid hr
  have HN := Lib.hid hn
  clear hr hn
  go_enter Try.func55, Try.ntmps55
  go_wp2
  go_loop [3] (fun x => ∃ k : Nat, k ≤ n ∧ x = .int .i64 (k : Int) ∧ Hid ((b.take k).all (· == 0) = true)) (fun x => n - (intOf x).toNat)
  case atStart => exact ⟨0, by omega, rfl, rfl⟩
  case round =>
    obtain ⟨k, hk, rfl, HA⟩ := hrel
    by_cases hlt : k < n
    · have hk2 : k < b.length := by have := HN.out; omega
      obtain ⟨bb, o, rfl, hbb, hcc⟩ := HR.out.at_ (by omega)
      have hcell := hcc k hk2
      obtain ⟨x, hx⟩ : ∃ x, x = b[k] := ⟨_, rfl⟩
      rw [← hx] at hcell
      have hst := all_take b k hk2
      rw [HA.out, Bool.true_and, ← hx] at hst
      have HSt := Lib.hid hst
      have d0 : decide ((k : Int) < (n : Int)) = true := decide_eq_true (by omega)
      have d1 : decide (k < n) = true := decide_eq_true hlt
      have HX := Lib.hid hx
      by_cases hz : x = 0
      · have hxz : (x.toNat : Int) = 0 := by rw [hz]; rfl
        rw [hxz] at hcell
        have HA2 : Hid ((b.take (k + 1)).all (· == 0) = true) := by show _ = _; rw [HSt.out, hz]; rfl
        clear hcc hst hx hz hxz hbb
        go_wp2
        refine ⟨⟨k + 1, by omega, by go_num, HA2⟩, ?_⟩
        simp [intOf]; omega
      · have hxz : ((x.toNat : Int) != 0) = true := by
          have : x.toNat ≠ 0 := fun h => hz (by rw [← ofNat_byte x, h]; rfl)
          simp; omega
        have hx2 : ((x.toNat : Int) == 0) = false := by simpa using hxz
        have hx3 : ¬ (x.toNat : Int) = 0 := by simpa using hxz
        have HF : Hid (b.all (· == 0) = false) := by
          show _ = _
          rw [Bool.eq_false_iff]
          intro hh
          rw [List.all_eq_true] at hh
          have := hh b[k] (List.getElem_mem hk2)
          rw [← HX.out] at this
          exact hz (by simpa using this)
        clear hcc hst hx hz hbb
        go_wp2
        go_ret
        exact ⟨by rw [HF.out]; rfl, rfl⟩
    · have hkn : n ≤ k := by omega
      have d0 : decide ((k : Int) < (n : Int)) = false := decide_eq_false (by omega)
      have d1 : decide (k < n) = false := decide_eq_false hlt
      have HF : Hid (b.all (· == 0) = true) := by
        have := HA.out
        rw [List.take_of_length_le (by have := HN.out; omega)] at this
        exact this
      go_wp2
      go_ret
      exact ⟨by rw [HF.out]; rfl, rfl⟩
end Go.Proofs.Ytkockhggnbfahaa
end
