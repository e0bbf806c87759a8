/- SectorTurns returns true for every sector, every int and every four bytes, and leaves memory that was there as it was; nothing is assumed beyond the statement itself. -/
import Derived.Test.YtepeoggacmaenaaSectOpen
import Derived.Test.YtepeoggacmaenaaCrcTurn
import Derived.Test.YtepeoggacmaenaaLetters
import Derived.Stop.BytesEq
set_option linter.unusedVariables false
namespace Go.Proofs.Ytepeoggacmaenaa
open Go.ChangeShapes Go.WideShapes Go.ChangeAt Go.RowKit

theorem eql_zero7 (t0 t1 t2 t3 : UInt8) (w : World) :
    (binOp .eql 42 (.agg #[.int .u8 (t0.toNat : Int), .int .u8 (t1.toNat : Int), .int .u8 (t2.toNat : Int), .int .u8 (t3.toNat : Int)]) (.agg #[.int .u8 0, .int .u8 0, .int .u8 0, .int .u8 0])).run Try.prog w = .ok (.bool (decide (t0 = 0 ∧ t1 = 0 ∧ t2 = 0 ∧ t3 = 0))) w := by
  have h := run_eql_bytes (P := Try.prog) w 42 5 4 Try.underlying42 Try.underlying5 (fun w => by kernel_rfl) [t0, t1, t2, t3] [0, 0, 0, 0] rfl rfl
  have e : ([t0, t1, t2, t3] == [0, 0, 0, 0]) = decide (t0 = 0 ∧ t1 = 0 ∧ t2 = 0 ∧ t3 = 0) := by
    rw [Bool.eq_iff_iff]; simp
  rw [e] at h
  exact h
theorem turn_at (w : World) (k ep n l : Int) (A : Option Addr) (m c : Nat) (t0 t1 t2 t3 : UInt8) : Blk ((w.alloc (.cells #[.int .i64 k, .int .i64 ep, .int .i64 n, .int .i64 l, .slice A m c] 24)).alloc (.cells #[.int .u8 (t0.toNat : Int), .int .u8 (t1.toNat : Int), .int .u8 (t2.toNat : Int), .int .u8 (t3.toNat : Int)] 42)) (w.heap.size + 1) 42 #[.int .u8 (t0.toNat : Int), .int .u8 (t1.toNat : Int), .int .u8 (t2.toNat : Int), .int .u8 (t3.toNat : Int)] := by
  have h := Blk.new (w.alloc (.cells #[.int .i64 k, .int .i64 ep, .int .i64 n, .int .i64 l, .slice A m c] 24)) 42 #[.int .u8 (t0.toNat : Int), .int .u8 (t1.toNat : Int), .int .u8 (t2.toNat : Int), .int .u8 (t3.toNat : Int)]
  have e : (w.alloc (.cells #[.int .i64 k, .int .i64 ep, .int .i64 n, .int .i64 l, .slice A m c] 24)).heap.size = w.heap.size + 1 := by simp
  rwa [e] at h
theorem turn_below (w : World) (k ep n l : Int) (A : Option Addr) (m c : Nat) (t0 t1 t2 t3 : UInt8) : Below w.heap.size w ((w.alloc (.cells #[.int .i64 k, .int .i64 ep, .int .i64 n, .int .i64 l, .slice A m c] 24)).alloc (.cells #[.int .u8 (t0.toNat : Int), .int .u8 (t1.toNat : Int), .int .u8 (t2.toNat : Int), .int .u8 (t3.toNat : Int)] 42)) := ((Below.refl _ _).alloc (Nat.le_refl _) _).alloc (by simp) _
set_option maxRecDepth 100000 in
set_option maxHeartbeats 4000000 in
theorem sturns_out (s : Sd) (A : Option Addr) (c : Nat) (z : Int) (t0 t1 t2 t3 : UInt8) (w : World)
    (h : 48 < s.data.length ∨ z < 0 ∨ 60 < z ∨ (t0 = 0 ∧ t1 = 0 ∧ t2 = 0 ∧ t3 = 0)) :
    Calls Try.prog 6 #[secV s A c, .int .i64 z, .agg #[.int .u8 (t0.toNat : Int), .int .u8 (t1.toNat : Int), .int .u8 (t2.toNat : Int), .int .u8 (t3.toNat : Int)]] w fun e w' => e = .returned (.bool true) ∧ Below w.heap.size w w' := by
  obtain ⟨k, ep, n, l, D⟩ := s
  obtain ⟨m, hm⟩ : ∃ m, m = D.length := ⟨_, rfl⟩
  simp only at h
  unfold secV
  simp only
  rw [← hm] at h ⊢
  have a24 := fun w' => Try.aggSec w'
  have s24 := fun w' => Try.sizeSec w'
  have HAw := Lib.hid awake7_any
  have HTB := Lib.hid (turn_below w k ep n l A m c t0 t1 t2 t3)
  have hbx := turn_at w k ep n l A m c t0 t1 t2 t3
  clear hm
  by_cases h1 : 48 < m
  · have d0 : decide ((48 : Int) < (m : Int)) = true := decide_eq_true (by omega)
    have d1 : decide ((m : Int) > 48) = true := decide_eq_true (by omega)
    have d2 : decide (48 < m) = true := decide_eq_true h1
    clear h
    go_enter Try.func6, Try.ntmps6
    go_wp2_with (go_at_call 7; (with_reducible refine (HAw.out _).mono ?_); rintro e w3 ⟨rfl, hb3⟩)
    go_ret
    exact ⟨rfl, chain7 HTB.out hb3⟩
  have d0 : decide ((48 : Int) < (m : Int)) = false := decide_eq_false (by omega)
  have d1 : decide ((m : Int) > 48) = false := decide_eq_false (by omega)
  have d2 : decide (48 < m) = false := decide_eq_false h1
  by_cases h2 : z < 0
  · have e0 : decide (z < 0) = true := decide_eq_true h2
    clear h
    go_enter Try.func6, Try.ntmps6
    go_wp2_with (go_at_call 7; (with_reducible refine (HAw.out _).mono ?_); rintro e w3 ⟨rfl, hb3⟩)
    go_ret
    exact ⟨rfl, chain7 HTB.out hb3⟩
  have e0 : decide (z < 0) = false := decide_eq_false h2
  by_cases h3 : 60 < z
  · have e1 : decide (60 < z) = true := decide_eq_true h3
    have e2 : decide (z > 60) = true := decide_eq_true h3
    clear h
    go_enter Try.func6, Try.ntmps6
    go_wp2_with (go_at_call 7; (with_reducible refine (HAw.out _).mono ?_); rintro e w3 ⟨rfl, hb3⟩)
    go_ret
    exact ⟨rfl, chain7 HTB.out hb3⟩
  have e1 : decide (60 < z) = false := decide_eq_false h3
  have e2 : decide (z > 60) = false := decide_eq_false h3
  have hz : t0 = 0 ∧ t1 = 0 ∧ t2 = 0 ∧ t3 = 0 := by
    rcases h with h | h | h | h
    · omega
    · omega
    · omega
    · exact h
  have hq : ∀ W, (binOp .eql 42 (.agg #[.int .u8 (t0.toNat : Int), .int .u8 (t1.toNat : Int), .int .u8 (t2.toNat : Int), .int .u8 (t3.toNat : Int)]) (.agg #[.int .u8 0, .int .u8 0, .int .u8 0, .int .u8 0])).run Try.prog W = .ok (.bool true) W := fun W => by
    rw [eql_zero7, decide_eq_true hz]
  clear h hz
  go_enter Try.func6, Try.ntmps6
  go_wp2_with (first
    | (refine wpList_load_yes (by go_simp) 42 (.tmp 5) rfl (w.heap.size + 1) rfl 42 #[.int .u8 (t0.toNat : Int), .int .u8 (t1.toNat : Int), .int .u8 (t2.toNat : Int), .int .u8 (t3.toNat : Int)] (0, 0) _ hbx Try.underlying42 rfl (by kernel_rfl) ?_)
    | (go_at_call 7; (with_reducible refine (HAw.out _).mono ?_); rintro e w3 ⟨rfl, hb3⟩))
  go_ret
  exact ⟨rfl, chain7 HTB.out hb3⟩
set_option maxRecDepth 100000 in
set_option maxHeartbeats 4000000 in
theorem sturns_no (s : Sd) (A : Option Addr) (c : Nat) (p : Nat) (t0 t1 t2 t3 : UInt8) (w : World) (hl : s.data.length ≤ 48) (hp : p ≤ 60) (hne : ¬ (t0 = 0 ∧ t1 = 0 ∧ t2 = 0 ∧ t3 = 0)) (hv : s.may = false) :
    Calls Try.prog 6 #[secV s A c, .int .i64 (p : Int), .agg #[.int .u8 (t0.toNat : Int), .int .u8 (t1.toNat : Int), .int .u8 (t2.toNat : Int), .int .u8 (t3.toNat : Int)]] w fun e w' => e = .returned (.bool true) ∧ Below w.heap.size w w' := by
  have HR : Hid (∀ W, Calls Try.prog 9 #[secV s A c] W fun e w' => e = .returned (.tuple #[.slice none 0 0, .int .i64 1]) ∧ Below W.heap.size W w') := fun W => rput_no s A c W hv
  obtain ⟨k, ep, n, l, D⟩ := s
  obtain ⟨m, hm⟩ : ∃ m, m = D.length := ⟨_, rfl⟩
  simp only at hl
  unfold secV at HR ⊢
  simp only at HR ⊢
  rw [← hm] at hl HR ⊢
  have a24 := fun w' => Try.aggSec w'
  have s24 := fun w' => Try.sizeSec w'
  have HAw := Lib.hid awake7_any
  have HTB := Lib.hid (turn_below w k ep n l A m c t0 t1 t2 t3)
  have hbx := turn_at w k ep n l A m c t0 t1 t2 t3
  have d0 : decide ((48 : Int) < (m : Int)) = false := decide_eq_false (by omega)
  have d1 : decide ((m : Int) > 48) = false := decide_eq_false (by omega)
  have d2 : decide (48 < m) = false := decide_eq_false (by omega)
  have e0 : decide ((p : Int) < 0) = false := decide_eq_false (by omega)
  have e1 : decide ((60 : Int) < (p : Int)) = false := decide_eq_false (by omega)
  have e2 : decide ((p : Int) > 60) = false := decide_eq_false (by omega)
  have e3 : decide (60 < p) = false := decide_eq_false (by omega)
  have hq : ∀ W, (binOp .eql 42 (.agg #[.int .u8 (t0.toNat : Int), .int .u8 (t1.toNat : Int), .int .u8 (t2.toNat : Int), .int .u8 (t3.toNat : Int)]) (.agg #[.int .u8 0, .int .u8 0, .int .u8 0, .int .u8 0])).run Try.prog W = .ok (.bool false) W := fun W => by
    rw [eql_zero7, decide_eq_false hne]
  clear hm hv hne
  go_enter Try.func6, Try.ntmps6
  go_wp2_with (first
    | (refine wpList_load_yes (by go_simp) 42 (.tmp 5) rfl (w.heap.size + 1) rfl 42 #[.int .u8 (t0.toNat : Int), .int .u8 (t1.toNat : Int), .int .u8 (t2.toNat : Int), .int .u8 (t3.toNat : Int)] (0, 0) _ hbx Try.underlying42 rfl (by kernel_rfl) ?_)
    | (go_at_call 9; (with_reducible refine (HR.out _).mono ?_); rintro e w1 ⟨rfl, hb1⟩)
    | (go_at_call 7; (with_reducible refine (HAw.out _).mono ?_); rintro e w3 ⟨rfl, hb3⟩))
  go_ret
  exact ⟨rfl, chain7 (chain7 HTB.out hb1) hb3⟩
set_option maxRecDepth 100000 in
set_option maxHeartbeats 4000000 in
theorem sturns_yes (s : Sd) (A : Option Addr) (c : Nat) (p : Nat) (t0 t1 t2 t3 : UInt8) (w : World) (hr : RB w w.heap.size A s.data) (hl : s.data.length ≤ 48) (hp : p ≤ 60) (hne : ¬ (t0 = 0 ∧ t1 = 0 ∧ t2 = 0 ∧ t3 = 0)) (hv : s.may = true) :
    Calls Try.prog 6 #[secV s A c, .int .i64 (p : Int), .agg #[.int .u8 (t0.toNat : Int), .int .u8 (t1.toNat : Int), .int .u8 (t2.toNat : Int), .int .u8 (t3.toNat : Int)]] w fun e w' => e = .returned (.bool true) ∧ Below w.heap.size w w' := by
  obtain ⟨S, hS⟩ : ∃ S, S = s.bytes := ⟨_, rfl⟩
  have hS64 : S.length = 64 := by rw [hS]; exact Sd.bytes_length s hl
  have HR : Hid (∀ W, Below w.heap.size w W → Calls Try.prog 9 #[secV s A c] W fun e w' => ∃ g c, e = .returned (.tuple #[.slice (some ⟨g, 0, none⟩) 64 c, .int .i64 0]) ∧ w'.ownsRow W.heap.size 5 1 (.slice (some ⟨g, 0, none⟩) 64 c) 64 (cells S) ∧ 64 ≤ c ∧ c ≤ 9223372036854775807 ∧ Below W.heap.size W w') := fun W hb => (rput_yes s A c W hv (rb_up7 hr hb)).mono fun e w' hh => by
    obtain ⟨A', c', he, ho, hb⟩ := hh
    have h5 := own_cap7 ho
    rw [← hS] at he ho h5
    unfold Own at ho
    rw [hS64] at he ho
    obtain ⟨g, cap, hvv, _, _⟩ := ho.form (by omega)
    injection hvv with hA _ _
    subst hA
    exact ⟨g, c', he, ho, by have := h5.2.1; omega, h5.2.2, hb⟩
  have hto : openL (turnK S p [t0, t1, t2, t3] 4) = none := by
    rw [hS]
    exact turned_not s.body p t0 t1 t2 t3 (by rw [Sd.body_length s hl]; exact hp) hne
  have htl : ∀ k, (turnK S p [t0, t1, t2, t3] k).length = 64 := fun k => by rw [turnK_length]; exact hS64
  have HG : Hid (∀ W (A : Option Addr) (c : Nat), 64 ≤ c → c ≤ 9223372036854775807 → RB W W.heap.size A (turnK S p [t0, t1, t2, t3] 4) → Calls Try.prog 10 #[.slice A 64 c] W fun e w' => (∃ A c, e = .returned (.tuple #[.agg #[.int .i64 0, .int .i64 0, .int .i64 0, .int .i64 0, .slice A 0 c], .int .i64 12])) ∧ Below W.heap.size W w') := fun W A c h1 h2 h3 => by
    have h := sget_any (turnK S p [t0, t1, t2, t3] 4) A c W h3 (by rw [htl]; exact h1) h2 (by rw [htl]; omega)
    rw [getS_sum (htl 4) hto, htl] at h
    refine h.mono fun e w' hh => ?_
    obtain ⟨A', c', he, _, hb⟩ := hh
    exact ⟨⟨A', c', he⟩, hb⟩
  have HLen := Lib.hid htl
  obtain ⟨k, ep, n, l, D⟩ := s
  obtain ⟨m, hm⟩ : ∃ m, m = D.length := ⟨_, rfl⟩
  simp only at hl
  unfold secV at HR ⊢
  simp only at HR ⊢
  rw [← hm] at hl HR ⊢
  have a24 := fun w' => Try.aggSec w'
  have s24 := fun w' => Try.sizeSec w'
  have HAw := Lib.hid awake7_any
  have HTB := Lib.hid (turn_below w k ep n l A m c t0 t1 t2 t3)
  have hbx := turn_at w k ep n l A m c t0 t1 t2 t3
  have d0 : decide ((48 : Int) < (m : Int)) = false := decide_eq_false (by omega)
  have d1 : decide ((m : Int) > 48) = false := decide_eq_false (by omega)
  have d2 : decide (48 < m) = false := decide_eq_false (by omega)
  have e0 : decide ((p : Int) < 0) = false := decide_eq_false (by omega)
  have e1 : decide ((60 : Int) < (p : Int)) = false := decide_eq_false (by omega)
  have e2 : decide ((p : Int) > 60) = false := decide_eq_false (by omega)
  have e3 : decide (60 < p) = false := decide_eq_false (by omega)
  have hq : ∀ W, (binOp .eql 42 (.agg #[.int .u8 (t0.toNat : Int), .int .u8 (t1.toNat : Int), .int .u8 (t2.toNat : Int), .int .u8 (t3.toNat : Int)]) (.agg #[.int .u8 0, .int .u8 0, .int .u8 0, .int .u8 0])).run Try.prog W = .ok (.bool false) W := fun W => by
    rw [eql_zero7, decide_eq_false hne]
  clear hm hv hne hS hS64 hto htl hr
  go_enter Try.func6, Try.ntmps6
  go_wp2_with (first
    | (refine wpList_load_yes (by go_simp) 42 (.tmp 5) rfl (w.heap.size + 1) rfl 42 #[.int .u8 (t0.toNat : Int), .int .u8 (t1.toNat : Int), .int .u8 (t2.toNat : Int), .int .u8 (t3.toNat : Int)] (0, 0) _ hbx Try.underlying42 rfl (by kernel_rfl) ?_)
    | (go_at_call 9; (with_reducible refine (HR.out _ HTB.out).mono ?_); rintro e w1 ⟨g, c1, rfl, ho1, h11, h12, hb1⟩; have hb33 := hbx.below hb1 (Blk.lt hbx)))
  have hgt : w.heap.size + 1 < ((w.alloc (.cells #[.int .i64 k, .int .i64 ep, .int .i64 n, .int .i64 l, .slice A m c] 24)).alloc (.cells #[.int .u8 (t0.toNat : Int), .int .u8 (t1.toNat : Int), .int .u8 (t2.toNat : Int), .int .u8 (t3.toNat : Int)] 42)).heap.size := Blk.lt hbx
  have hbw : Below w.heap.size w w1 := chain7 HTB.out hb1
  have hB1 := hb1.size
  clear hb1 hbx hq
  generalize ((w.alloc (.cells #[.int .i64 k, .int .i64 ep, .int .i64 n, .int .i64 l, .slice A m c] 24)).alloc (.cells #[.int .u8 (t0.toNat : Int), .int .u8 (t1.toNat : Int), .int .u8 (t2.toNat : Int), .int .u8 (t3.toNat : Int)] 42)).heap.size = B at ho1 hgt hB1
  have hg := (ho1.lt g rfl).1
  go_loopw [9] (fun i wr => ∃ k : Nat, k ≤ 4 ∧ i = .int .i64 (k : Int) ∧ wr.ownsRow B 5 1 (.slice (some ⟨g, 0, none⟩) 64 c1) 64 (cells (turnK S p [t0, t1, t2, t3] k)) ∧ Below B w1 wr) (fun i _ => 4 - (intOf i).toNat)
  case atStart => exact ⟨0, Nat.zero_le _, rfl, ho1, Below.refl _ _⟩
  case round =>
    obtain ⟨j, hk, rfl, hown, hbr⟩ := hrel
    by_cases hlt : j < 4
    · have hj : p + j < (turnK S p [t0, t1, t2, t3] j).length := by rw [HLen.out]; omega
      have hbk := hb33.below hbr hgt
      have hc1 : wr.cell? ⟨g, p + j, none⟩ = some (.int .u8 ((turnK S p [t0, t1, t2, t3] j)[p + j].toNat : Int)) := by
        rw [hown.cellAt (p + j) (by rw [HLen.out] at hj; omega), cells_get _ _ hj]
      have hf1 : wr.frozen? ⟨g, p + j, none⟩ = false := hown.frozenAt (p + j)
      have hc2 : wr.cell? ⟨w.heap.size + 1, j, none⟩ = some (.int .u8 (([t0, t1, t2, t3] : List UInt8)[j].toNat : Int)) := by
        rw [(blk_cell hbk j).1]
        match j, hlt with
        | 0, _ => rfl
        | 1, _ => rfl
        | 2, _ => rfl
        | 3, _ => rfl
      have hsuc := turnK_succ S p [t0, t1, t2, t3] j hj hlt
      have hst := (hown.stored (p + j) (.int .u8 (((turnK S p [t0, t1, t2, t3] j)[p + j] ^^^ ([t0, t1, t2, t3] : List UInt8)[j]).toNat : Int))).1
      have hset : (cells (turnK S p [t0, t1, t2, t3] j)).set (p + j) (.int .u8 (((turnK S p [t0, t1, t2, t3] j)[p + j] ^^^ ([t0, t1, t2, t3] : List UInt8)[j]).toNat : Int)) = cells (turnK S p [t0, t1, t2, t3] (j + 1)) := by
        rw [hsuc]; unfold cells; rw [List.map_set]
      rw [hset] at hst
      obtain ⟨x, hx⟩ : ∃ x, x = (turnK S p [t0, t1, t2, t3] j)[p + j] := ⟨_, rfl⟩
      obtain ⟨y, hy⟩ : ∃ y, y = ([t0, t1, t2, t3] : List UInt8)[j] := ⟨_, rfl⟩
      rw [← hx] at hc1 hst
      rw [← hy] at hc2 hst
      obtain ⟨b, hb⟩ : ∃ b, b = x ^^^ y := ⟨_, rfl⟩
      have hq1 : bits .xor .u8 (x.toNat : Int) (y.toNat : Int) = (b.toNat : Int) := by rw [hb, UInt8.toNat_xor]; exact u8_xor_nat _ _ x.toNat_lt y.toNat_lt
      rw [← hb] at hst
      have HST := Lib.hid hst
      have hbs : Below B w1 (wr.setCell ⟨g, p + j, none⟩ (.int .u8 (b.toNat : Int))) := hbr.setCell hg _
      clear hset hsuc hx hy hb hst hj hbk hown
      have hpk : (p : Int) + (j : Int) < 64 := by omega
      have hpk0 : (0 : Int) ≤ (p : Int) + (j : Int) := by omega
      go_wp2
      go_region
      go_wp2
      go_roundw
      case rel => exact ⟨j + 1, by omega, by go_num, HST.out, hbs.drew⟩
      case measure => simp [intOf]; omega
    · obtain rfl : j = 4 := by omega
      have hrb : RB wr wr.heap.size (some ⟨g, 0, none⟩) (turnK S p [t0, t1, t2, t3] 4) := by
        refine Reads.of_own (base := B) (e := 5) (c := c1) ?_
        rw [HLen.out]; exact hown
      have hbw2 : Below w.heap.size w wr := hbw.trans (hbr.mono (by omega))
      go_wp2_with (first
        | (go_at_call 10; (with_reducible refine (HG.out _ _ _ h11 h12 hrb).mono ?_); rintro e w2 ⟨⟨A2, c2, rfl⟩, hb2⟩; have b2 := chain7 hbw2 hb2)
        | (go_at_call 7; (with_reducible refine (HAw.out _).mono ?_); rintro e w3 ⟨rfl, hb3⟩))
      go_ret
      exact ⟨rfl, chain7 (b2.alloc b2.size _) hb3⟩
theorem sturns_any (s : Sd) (A : Option Addr) (c : Nat) (z : Int) (t0 t1 t2 t3 : UInt8) (w : World) (hr : RB w w.heap.size A s.data) :
    Calls Try.prog 6 #[secV s A c, .int .i64 z, .agg #[.int .u8 (t0.toNat : Int), .int .u8 (t1.toNat : Int), .int .u8 (t2.toNat : Int), .int .u8 (t3.toNat : Int)]] w fun e w' => e = .returned (.bool true) ∧ Below w.heap.size w w' := by
  by_cases h : 48 < s.data.length ∨ z < 0 ∨ 60 < z ∨ (t0 = 0 ∧ t1 = 0 ∧ t2 = 0 ∧ t3 = 0)
  · exact sturns_out s A c z t0 t1 t2 t3 w h
  · have h1 : ¬ 48 < s.data.length := fun hx => h (.inl hx)
    have h2 : ¬ z < 0 := fun hx => h (.inr (.inl hx))
    have h3 : ¬ 60 < z := fun hx => h (.inr (.inr (.inl hx)))
    have h4 : ¬ (t0 = 0 ∧ t1 = 0 ∧ t2 = 0 ∧ t3 = 0) := fun hx => h (.inr (.inr (.inr hx)))
    obtain ⟨p, rfl⟩ : ∃ p : Nat, z = (p : Int) := ⟨z.toNat, by omega⟩
    cases hv : s.may with
    | false => exact sturns_no s A c p t0 t1 t2 t3 w (by omega) (by omega) h4 hv
    | true => exact sturns_yes s A c p t0 t1 t2 t3 w hr (by omega) (by omega) h4 hv
theorem Try.cellsT7 : Try.prog.cellsOf 42 = 4 := by kernel_rfl
set_option maxRecDepth 100000 in
theorem sturns_lifted (os : Os) (started : os.Started) (H : Type) (enc : TypeId × Value → H) :
    ReturnsInHanded {} Try.checked os 6 .any (Rows.sectorTurnsSpec.pre6 enc Try.prog Try.f6 Rows.sectorTurnsRow.domain false) (Rows.sectorTurnsSpec.post enc Try.prog Try.f6 false true false false) := by
  refine returnsInHanded_of_change_sized (C := Try.checked) Try.own started (by kernel_rfl) Try.func6
    (ChangeSpec.witness6 (enc := enc) (C := Try.checked) false ⟨#[], #[.agg #[.int .i64 0, .int .i64 0, .int .i64 0, .int .i64 0, .slice none 0 0], .int .i64 0, .agg #[.int .u8 0, .int .u8 0, .int .u8 0, .int .u8 0]], []⟩ 8 (by kernel_rfl) (by kernel_rfl) (by kernel_rfl) (by kernel_rfl)) ?_
  intro W base args ds gs before hval0 hW hcnd hsz0 _
  have hval : ∀ (j : Nat) t v, Try.f6.params[j]? = some t → args[j]? = some v → Value.okWide Try.prog W .any base t v := hval0
  have hW' : DataW.Whole enc Try.prog Try.f6.params.toList Rows.sectorTurnsSpec.vars false W args.toList ds gs before := hW
  have hWk := hW'
  clear hsz0 hval0
  obtain ⟨p, q, hA, hV, rfl, hfz, hnd⟩ := hW'
  rw [Try.params6] at hA hval
  obtain ⟨v0, v1, v2, d0, d1, d2, p0, p1, p2, rfl, rfl, rfl, h0, h1, h2⟩ := trodAll_three hA
  obtain ⟨rfl, rfl⟩ := trodVars_none hV
  obtain ⟨s, A, c, rfl, hr, _, _, _⟩ := open_sec (hval 0 24 v0 rfl rfl) h0
  obtain ⟨z, rfl, rfl, rfl, wz⟩ := open_int Try.underlying3 (hval 1 3 v1 rfl rfl) h1
  obtain ⟨t0, t1, t2, t3, rfl⟩ := open_four Try.underlying42 Try.underlying5 Try.cellsB7 Try.cellsT7 (hval 2 42 v2 rfl rfl) h2
  refine (sturns_any s A c z t0 t1 t2 t3 W hr).mono fun e W' ⟨he, hb⟩ => ⟨_, he, ?_⟩
  exact law_post Try.laidOut hWk rfl rfl rfl rfl rfl Try.underlying4 (by kernel_rfl) hb
theorem sturns_holds : Rows.SectorTurnsSaid :=
  OpenClaim.holds_of_wide 6 Try.f6 rfl rfl rfl rfl rfl rfl rfl ⟨rfl, rfl, rfl, rfl, rfl⟩ rfl rfl rfl rfl rfl (by kernel_rfl) Try.func6 (by kernel_rfl)
    (of_decide_eq_true (by kernel_rfl)) (by unfold Func.isWrapper; first | (rw [if_pos (by decide +kernel)]; kernel_rfl) | (rw [if_neg (by decide +kernel)]; exact ⟨rfl, rfl⟩))
    (fun os started H enc _ => sturns_lifted os started H enc)
end Go.Proofs.Ytepeoggacmaenaa
