/- The walk of the reference's Split of a text in sectors (layer 7). -/
import Derived.Test.YtepeoggacmaenaaSectRGetB
import Derived.Test.YtepeoggacmaenaaSectRSame
import Derived.BigFrame
import Derived.Test.YtepeoggacmaenaaFoot
set_option linter.unusedVariables false
namespace Go.Proofs.Ytepeoggacmaenaa
open Go.RowKit

theorem Try.secInfo : (Try.prog.info? 24).map (fun i => (i.zero, i.size, i.bytes)) = some (some (.agg #[.int .i64 0, .int .i64 0, .int .i64 0, .int .i64 0, .slice none 0 0]), 5, 56) := by kernel_rfl
theorem five_new (W : World) (v0 v1 v2 v3 v4 : Value) (t : TypeId) : Reads (W.alloc (.cells #[v0, v1, v2, v3, v4] t)) (W.heap.size + 1) 5 (some ⟨W.heap.size, 0, none⟩) 1 [v0, v1, v2, v3, v4] := by
  refine ⟨by simp, fun h0 => ⟨_, rfl, by simp, fun j u hu => ?_⟩⟩
  have h := heap_alloc_new W (.cells #[v0, v1, v2, v3, v4] t)
  have e : (⟨W.heap.size, 0, none⟩ : Addr).add j = ⟨W.heap.size, j, none⟩ := by unfold Addr.add; split <;> simp_all
  rw [e, (blk_cell h j).1]
  simpa using hu
theorem own_slice7 {w : World} {base : Nat} {e : TypeId} {size n : Nat} {v : Value} {xs : List Value} (h : w.ownsRow base e size v n xs) : ∃ A c, v = .slice A n c := by
  rcases h.2 with ⟨rfl, h0⟩ | ⟨g, cap, cur, rfl, h2, _⟩
  · exact ⟨none, 0, by rw [h0]⟩
  · exact ⟨_, _, rfl⟩
theorem split_none {s : Sd} {t : List UInt8} (h : needN t.length = 0) : splitS s t = ([], 1) := by unfold splitS; rw [if_pos h]
theorem split_bad {s : Sd} {t : List UInt8} (hl : t.length ≤ 1000000) {i : Nat} (hi : i < needN t.length) (h : (s.part t (needN t.length) i).may = false) : splitS s t = ([], 1) := by
  have e : needN t.length = (t.length + 47) / 48 := rfl
  unfold splitS
  rw [if_neg (by omega), if_neg (by omega), if_neg]
  intro hh
  have := List.all_eq_true.1 hh i (List.mem_range.2 hi)
  rw [h] at this
  cases this
theorem split_ok {s : Sd} {t : List UInt8} (hl : t.length ≤ 1000000) (h0 : needN t.length ≠ 0) (h : ∀ i, i < needN t.length → (s.part t (needN t.length) i).may = true) : splitS s t = ((List.range (needN t.length)).map (s.part t (needN t.length)), 0) := by
  have e : needN t.length = (t.length + 47) / 48 := rfl
  unfold splitS
  rw [if_neg h0, if_neg (by omega), if_pos]
  exact List.all_eq_true.2 fun i hi => h i (List.mem_range.1 hi)
theorem rowC_five (k e n l : Int) (A : Option Addr) (m c : Nat) : ∀ u ∈ [Value.int .i64 k, .int .i64 e, .int .i64 n, .int .i64 l, .slice A m c], u.oneCell' = true := fun u hu => by
  simp only [List.mem_cons, List.not_mem_nil, or_false] at hu
  rcases hu with rfl | rfl | rfl | rfl | rfl <;> rfl
/-- How far the text is cut: the sectors that are made, where their bytes lie. -/
def Cut (W : World) (s : Sd) (t : List UInt8) (i : Nat) (rows : List (Sd × Option Addr × Nat)) : Prop :=
  rows.length = i ∧ rows.map (·.1) = (List.range i).map (s.part t (needN t.length)) ∧ (∀ j, j < i → (s.part t (needN t.length) j).may = true) ∧ ∀ x ∈ rows, RB W W.heap.size x.2.1 x.1.data
theorem Cut.snoc {W : World} {s : Sd} {t : List UInt8} {i : Nat} {rows : List (Sd × Option Addr × Nat)} (h : Cut W s t i rows) (hm : (s.part t (needN t.length) i).may = true) {A : Option Addr} {c : Nat} (hr : RB W W.heap.size A (s.part t (needN t.length) i).data) : Cut W s t (i + 1) (rows ++ [(s.part t (needN t.length) i, A, c)]) := by
  refine ⟨by simp [h.1], by rw [List.map_append, h.2.1, List.range_succ, List.map_append]; rfl, fun j hj => ?_, fun x hx => ?_⟩
  · by_cases h1 : j < i
    · exact h.2.2.1 j h1
    · have : j = i := by omega
      rw [this]; exact hm
  · rcases List.mem_append.1 hx with h1 | h1
    · exact h.2.2.2 x h1
    · rw [List.mem_singleton] at h1
      subst h1
      exact hr

set_option maxRecDepth 100000 in
set_option maxHeartbeats 4000000 in
theorem rsplit_zero (s : Sd) (A : Option Addr) (c : Nat) (t : List UInt8) (n : Nat) (B : Option Addr) (cB : Nat) (w : World) (hn : n = t.length) (h : n = 0) :
    Calls Try.prog 14 #[secV s A c, .slice B n cB] w (GivesSL (splitS s t) w) := by
  subst h
  have HV : Hid (splitS s t = ([], 1)) := split_none (by rw [← hn]; rfl)
  have HN : Hid (∀ W, Calls Try.prog 18 #[.int .i64 0] W fun e w' => e = .returned (.int .i64 0) ∧ W = w') := fun W => rneed_any 0 (by omega) W
  have HB : Hid (∀ (v : Value), Below w.heap.size w (w.alloc (.cells #[.int .i64 s.kind, .int .i64 s.epoch, .int .i64 s.number, .int .i64 s.left, v] 24))) := fun v => (Below.refl _ _).alloc (Nat.le_refl _) _
  unfold secV
  clear hn
  go_enter Try.func14, Try.ntmps14
  go_wp2_with (go_at_call 18; (with_reducible refine (HN.out _).mono ?_); rintro e w1 ⟨rfl, rfl⟩)
  go_ret2
  exact ⟨none, 0, by rw [HV.out]; rfl, by rw [HV.out]; exact SL.nil, HB.out _⟩
set_option maxRecDepth 100000 in
set_option maxHeartbeats 4000000 in
theorem rsplit_num (s : Sd) (A : Option Addr) (c : Nat) (t : List UInt8) (n : Nat) (B : Option Addr) (cB : Nat) (w : World) (hn : n = t.length) (h : n ≠ 0) (hl : n ≤ 1000000) (hb : s.number < 0 ∨ 2147483647 < s.number) :
    Calls Try.prog 14 #[secV s A c, .slice B n cB] w (GivesSL (splitS s t) w) := by
  have e : needN t.length = (t.length + 47) / 48 := rfl
  have HV : Hid (splitS s t = ([], 1)) := split_bad (i := 0) (by omega) (by omega) (by
    rw [Bool.eq_false_iff]
    intro hh
    obtain ⟨_, _, _, _, h5, h6, _⟩ := (Sd.may_iff _).1 hh
    have h5 : 0 ≤ s.number + ((0 : Nat) : Int) := h5
    have h6 : s.number + ((0 : Nat) : Int) ≤ 2147483647 := h6
    omega)
  obtain ⟨N, hN⟩ : ∃ N, N = needN n := ⟨_, rfl⟩
  have hN2 : N = (n + 47) / 48 := hN
  have HN : Hid (∀ W, Calls Try.prog 18 #[.int .i64 (n : Int)] W fun e w' => e = .returned (.int .i64 (N : Int)) ∧ W = w') := fun W => by rw [hN]; exact rneed_any n (by omega) W
  have d0 : ((N : Int) == 0) = false := by simp; omega
  have d1 : decide ((65536 : Int) < (N : Int)) = false := decide_eq_false (by omega)
  have d2 : decide ((N : Int) > 65536) = false := decide_eq_false (by omega)
  have d3 : decide (65536 < N) = false := decide_eq_false (by omega)
  obtain ⟨nu, hnu⟩ : ∃ x, x = s.number := ⟨_, rfl⟩
  have HB : Hid (∀ (v : Value), Below w.heap.size w (w.alloc (.cells #[.int .i64 s.kind, .int .i64 s.epoch, .int .i64 nu, .int .i64 s.left, v] 24))) := fun v => (Below.refl _ _).alloc (Nat.le_refl _) _
  unfold secV
  rw [← hnu] at hb ⊢
  clear hn hN hN2 hnu e
  rcases hb with hb | hb
  · have d4 : decide (nu < 0) = true := decide_eq_true hb
    go_enter Try.func14, Try.ntmps14
    go_wp2_with (go_at_call 18; (with_reducible refine (HN.out _).mono ?_); rintro e w1 ⟨rfl, rfl⟩)
    go_ret2
    exact ⟨none, 0, by rw [HV.out]; rfl, by rw [HV.out]; exact SL.nil, HB.out _⟩
  · have d4 : decide (nu < 0) = false := decide_eq_false (by omega)
    have d5 : decide ((2147483647 : Int) < nu) = true := decide_eq_true hb
    have d6 : decide (nu > 2147483647) = true := decide_eq_true hb
    go_enter Try.func14, Try.ntmps14
    go_wp2_with (go_at_call 18; (with_reducible refine (HN.out _).mono ?_); rintro e w1 ⟨rfl, rfl⟩)
    go_ret2
    exact ⟨none, 0, by rw [HV.out]; rfl, by rw [HV.out]; exact SL.nil, HB.out _⟩
set_option maxRecDepth 100000 in
set_option maxHeartbeats 4000000 in
theorem rsplit_in (s : Sd) (A : Option Addr) (c : Nat) (t : List UInt8) (n : Nat) (B : Option Addr) (cB : Nat) (w : World) (hn : n = t.length) (h : n ≠ 0) (hl : n ≤ 1000000) (hb1 : 0 ≤ s.number) (hb2 : s.number ≤ 2147483647) (hr : RB w w.heap.size B t) (hc : n ≤ cB) (hcm : cB ≤ 9223372036854775807) :
    Calls Try.prog 14 #[secV s A c, .slice B n cB] w (GivesSL (splitS s t) w) := by
  obtain ⟨N, hN⟩ : ∃ N, N = needN n := ⟨_, rfl⟩
  have hN2 : N = (n + 47) / 48 := hN
  have HN : Hid (∀ W, Calls Try.prog 18 #[.int .i64 (n : Int)] W fun e w' => e = .returned (.int .i64 (N : Int)) ∧ W = w') := fun W => by rw [hN]; exact rneed_any n (by omega) W
  have HNn : Hid (needN t.length = N ∧ t.length = n ∧ N = (n + 47) / 48) := ⟨by rw [hN, hn], hn.symm, hN2⟩
  obtain ⟨i0, hi0, hz0, hz1, hz2⟩ := info_parts Try.secInfo
  obtain ⟨b0, o, rfl, _, _⟩ := hr.at_ (by omega)
  have d0 : ((N : Int) == 0) = false := by simp; omega
  have d1 : decide ((65536 : Int) < (N : Int)) = false := decide_eq_false (by omega)
  have d2 : decide ((N : Int) > 65536) = false := decide_eq_false (by omega)
  have d3 : decide (65536 < N) = false := decide_eq_false (by omega)
  have hN3 : N ≤ 20834 := by omega
  have HS := Lib.hid (show s = s from rfl)
  obtain ⟨kd, hkd⟩ : ∃ x, x = s.kind := ⟨_, rfl⟩
  obtain ⟨ep, hep⟩ : ∃ x, x = s.epoch := ⟨_, rfl⟩
  obtain ⟨nu, hnu⟩ : ∃ x, x = s.number := ⟨_, rfl⟩
  obtain ⟨lf, hlf⟩ : ∃ x, x = s.left := ⟨_, rfl⟩
  obtain ⟨m, hm⟩ : ∃ x, x = s.data.length := ⟨_, rfl⟩
  rw [← hnu] at hb1 hb2
  have d4 : decide (nu < 0) = false := decide_eq_false (by omega)
  have d5 : decide ((2147483647 : Int) < nu) = false := decide_eq_false (by omega)
  have d6 : decide (nu > 2147483647) = false := decide_eq_false (by omega)
  have HK : Hid (kd = s.kind ∧ ep = s.epoch ∧ nu = s.number) := ⟨hkd, hep, hnu⟩
  have HRt := Lib.hid hr
  have HC := Lib.hid (show n ≤ cB ∧ cB ≤ 9223372036854775807 from ⟨hc, hcm⟩)
  unfold secV
  rw [← hkd, ← hep, ← hnu, ← hlf, ← hm]
  clear hn hN hN2 hnu hkd hep hlf hm hr hc
  have HW0 : Hid (∃ WA, WA = w.alloc (.cells #[.int .i64 kd, .int .i64 ep, .int .i64 nu, .int .i64 lf, .slice A m c] 24) ∧ Below w.heap.size w WA ∧ ∀ W, Below WA.heap.size WA W → W.cell? ⟨w.heap.size, 0, none⟩ = some (.int .i64 kd) ∧ W.cell? ⟨w.heap.size, 1, none⟩ = some (.int .i64 ep) ∧ W.cell? ⟨w.heap.size, 2, none⟩ = some (.int .i64 nu)) := by
    refine ⟨_, rfl, (Below.refl _ _).alloc (Nat.le_refl _) _, fun W hb => ?_⟩
    have h0 : Blk W w.heap.size 24 #[.int .i64 kd, .int .i64 ep, .int .i64 nu, .int .i64 lf, .slice A m c] := Blk.below (Blk.new w _ _) hb (by simp)
    exact ⟨by rw [h0.cell]; rfl, by rw [h0.cell]; rfl, by rw [h0.cell]; rfl⟩
  obtain ⟨WA, hWA, hbA, HCb⟩ := HW0.out
  have HWA := Lib.hid hWA
  have HBA := Lib.hid hbA
  have HCb := Lib.hid HCb
  clear hWA hbA HW0
  go_enter Try.func14, Try.ntmps14
  go_wp2_with (go_at_call 18; (with_reducible refine (HN.out _).mono ?_); rintro e w1 ⟨rfl, rfl⟩)
  rw [← HWA.out]
  go_loopw [7, 8, 9, 10] (fun v x _ _ wr => ∃ i : Nat, i ≤ N ∧ x = .int .i64 (i : Int) ∧ ∃ rows, Hid (Cut w s t i rows) ∧ Hid (wr.ownsRow WA.heap.size 24 5 v i (rowC rows)) ∧ Hid (Below WA.heap.size WA wr)) (fun _ x _ _ _ => N - (intOf x).toNat)
  case atStart => exact ⟨0, by omega, rfl, [], ⟨rfl, rfl, fun j hj => by omega, fun x hx => by cases hx⟩, World.ownsRow_nil _ _ _ _, Below.refl _ _⟩
  case round =>
    obtain ⟨i, hi, rfl, rows, HCt, HO, hbw⟩ := hrel
    by_cases hlt : i < N
    · have dl : decide ((i : Int) < (N : Int)) = true := decide_eq_true (by omega)
      have dl2 : decide (i < N) = true := decide_eq_true hlt
      obtain ⟨q0, hq0⟩ : ∃ q, q = 48 * i := ⟨_, rfl⟩
      obtain ⟨q2, hq2⟩ : ∃ q, q = 48 * (i + 1) := ⟨_, rfl⟩
      obtain ⟨ql, hql⟩ : ∃ q, q = min 48 (n - q0) := ⟨_, rfl⟩
      obtain ⟨lz, hlz⟩ : ∃ q, q = N - 1 - i := ⟨_, rfl⟩
      obtain ⟨nz, hnz⟩ : ∃ z : Int, z = nu + (i : Int) := ⟨_, rfl⟩
      have hq0n : q0 < n := by have := HNn.out.2.2; omega
      have y0 : (48 : Int) * (i : Int) = (q0 : Int) := by omega
      have y1 : (48 : Int) * ((i : Int) + 1) = (q2 : Int) := by omega
      have y2 : IntKind.i64.wrap (q0 : Int) = (q0 : Int) := IntWalk.i64_in _ (by omega)
      have y3 : IntKind.i64.wrap (q2 : Int) = (q2 : Int) := IntWalk.i64_in _ (by omega)
      have y4 : IntKind.i64.wrap (nu + (i : Int)) = nz := by rw [hnz]; exact IntWalk.i64_in _ (by omega)
      have y5 : IntKind.i64.wrap ((N : Int) - 1) = (N : Int) - 1 := IntWalk.i64_in _ (by omega)
      have y6 : IntKind.i64.wrap ((N : Int) - 1 - (i : Int)) = (lz : Int) := by rw [IntWalk.i64_in _ (by omega)]; omega
      have y7 : IntKind.i64.wrap ((i : Int) + 1) = (i : Int) + 1 := IntWalk.i64_in _ (by omega)
      have hdt : (t.drop q0).take 48 = (t.drop (48 * i)).take 48 := by rw [hq0]
      have hdl : ((t.drop q0).take 48).length = ql := by rw [List.length_take, List.length_drop, HNn.out.2.1, hql]
      have hRB : RB w w.heap.size (some ⟨b0, o + q0, none⟩) ((t.drop q0).take 48) := by
        have htn := HNn.out.2.1
        have h2 := rb_cut1 HRt.out (k := q0) (c := t.length + 1) (by rw [HNn.out.2.1]; omega) (by omega) (by omega)
        simp only [Option.map_some, add_at] at h2
        by_cases h48 : 48 ≤ (t.drop q0).length
        · exact rb_take h2 48 h48
        · rw [List.take_of_length_le (by omega)]; exact h2
      have HPt : Hid (∀ kz, kz = (if i = 0 then kd else kd + 1) → s.part t (needN t.length) i = ⟨kz, ep, nz, (lz : Int), (t.drop q0).take 48⟩) := fun kz hz => by
        obtain ⟨k1, k2, k3⟩ := HK.out
        unfold Sd.part
        rw [hz, hnz, hlz, hdt, k1, k2, k3, HNn.out.1]
      have HRB := Lib.hid hRB
      have HDl := Lib.hid hdl
      have n5 := fun k A m c w' => Try.secBuild5 k ep nz (lz : Int) A m c w'
      obtain ⟨c0, c1, c2⟩ := HCb.out _ hbw.out
      have hbz := hbw.out.alloc hbw.out.size (.cells #[.int .i64 0, .int .i64 0, .int .i64 0, .int .i64 0, .slice none 0 0] 24)
      obtain ⟨g0, g1, g2⟩ := HCb.out _ hbz
      clear hdt hdl hRB
      have hcases : (n < q2 ∧ n - q0 = ql) ∨ (¬ n < q2 ∧ q2 - q0 = ql) := by omega
      by_cases hE : n < q2
      · by_cases hz : i = 0
        · have e0 : decide ((n : Int) < (q2 : Int)) = true := decide_eq_true (by omega)
          have e1 : decide ((q2 : Int) > (n : Int)) = true := decide_eq_true (by omega)
          have e2 : decide (n < q2) = true := decide_eq_true (by omega)
          have ks := fun W => sl_both b0 o n cB q0 n (q0 : Int) (n : Int) rfl rfl (by omega) (by have := HC.out; omega) (by have := HC.out; omega) W
          rw [show n - q0 = ql by omega] at ks
          have z0 : decide ((0 : Int) < (i : Int)) = false := decide_eq_false (by omega)
          have z1 : decide ((i : Int) > 0) = false := decide_eq_false (by omega)
          have z2 : decide (0 < i) = false := decide_eq_false (by omega)
          have HZ := Lib.hid hz
          clear hq0 hq2 hql hlz hnz hz
          go_wp2
          go_region
          have hbN := hbw.out.alloc hbw.out.size (.cells #[.int .i64 kd, .int .i64 ep, .int .i64 nz, .int .i64 (lz : Int), .slice (some ⟨b0, o + q0, none⟩) ql (cB - q0)] 24)
          have hbD : Below (wr.alloc (.cells #[.int .i64 kd, .int .i64 ep, .int .i64 nz, .int .i64 (lz : Int), .slice (some ⟨b0, o + q0, none⟩) ql (cB - q0)] 24)).heap.size (wr.alloc (.cells #[.int .i64 kd, .int .i64 ep, .int .i64 nz, .int .i64 (lz : Int), .slice (some ⟨b0, o + q0, none⟩) ql (cB - q0)] 24)) (wr.alloc (.cells #[.int .i64 kd, .int .i64 ep, .int .i64 nz, .int .i64 (lz : Int), .slice (some ⟨b0, o + q0, none⟩) ql (cB - q0)] 24)).drew := (Below.refl _ _).drew
          have HT : Hid (∀ W', Below (wr.alloc (.cells #[.int .i64 kd, .int .i64 ep, .int .i64 nz, .int .i64 (lz : Int), .slice (some ⟨b0, o + q0, none⟩) ql (cB - q0)] 24)).heap.size (wr.alloc (.cells #[.int .i64 kd, .int .i64 ep, .int .i64 nz, .int .i64 (lz : Int), .slice (some ⟨b0, o + q0, none⟩) ql (cB - q0)] 24)) W' → W'.cell? ⟨wr.heap.size, 0, none⟩ = some (.int .i64 kd) ∧ W'.cell? ⟨wr.heap.size, 1, none⟩ = some (.int .i64 ep) ∧ W'.cell? ⟨wr.heap.size, 2, none⟩ = some (.int .i64 nz) ∧ W'.cell? ⟨wr.heap.size, 3, none⟩ = some (.int .i64 (lz : Int)) ∧ W'.cell? ⟨wr.heap.size, 4, none⟩ = some (.slice (some ⟨b0, o + q0, none⟩) ql (cB - q0))) := fun W' hb => by
            have h0 : Blk W' wr.heap.size 24 #[.int .i64 kd, .int .i64 ep, .int .i64 nz, .int .i64 (lz : Int), .slice (some ⟨b0, o + q0, none⟩) ql (cB - q0)] := Blk.below (Blk.new wr _ _) hb (by simp)
            exact ⟨by rw [h0.cell]; rfl, by rw [h0.cell]; rfl, by rw [h0.cell]; rfl, by rw [h0.cell]; rfl, by rw [h0.cell]; rfl⟩
          have hpt := HPt.out kd (by rw [if_pos HZ.out])
          have HPv := Lib.hid hpt
          obtain ⟨bm, hbm⟩ : ∃ x, x = (s.part t (needN t.length) i).may := ⟨_, rfl⟩
          have HMay : Hid (∀ W, Calls Try.prog 23 #[.agg #[.int .i64 kd, .int .i64 ep, .int .i64 nz, .int .i64 (lz : Int), .slice (some ⟨b0, o + q0, none⟩) ql (cB - q0)]] W fun e w' => e = .returned (.bool bm) ∧ Below W.heap.size W w') := fun W => by
            have h1 := rmay_any (s.part t (needN t.length) i) (some ⟨b0, o + q0, none⟩) (cB - q0) W
            rw [← hbm, hpt] at h1
            unfold secV at h1
            simp only [HDl.out] at h1
            exact h1
          have HBm := Lib.hid hbm
          have HOw : Hid (∀ W, Below wr.heap.size wr W → W.ownsRow WA.heap.size 24 5 u7 i (rowC rows)) := fun W hb => own_turns HO.out (Turns.of_below hb (fun _ => False)) (fun _ _ h => h)
          have hbr : Below wr.heap.size wr (wr.alloc (.cells #[.int .i64 kd, .int .i64 ep, .int .i64 nz, .int .i64 (lz : Int), .slice (some ⟨b0, o + q0, none⟩) ql (cB - q0)] 24)) := (Below.refl _ _).alloc (Nat.le_refl _) _
          clear hpt hbm c0 c1 c2 g0 g1 g2 hbz ks y4 y5 y6 e0 e1 e2
          rcases bm with _ | _
          · go_wp2_with (first
              | (go_at_call 23; (with_reducible refine (HMay.out _).mono ?_); rintro e w6 ⟨rfl, hb6⟩))
            have HVs := split_bad (s := s) (by rw [HNn.out.2.1]; exact hl) (i := i) (by rw [HNn.out.1]; exact hlt) HBm.out.symm
            go_ret2
            exact ⟨none, 0, by rw [HVs]; rfl, by rw [HVs]; exact SL.nil, HBA.out.trans ((chain7 (chain7 hbN hbD) hb6).mono HBA.out.size)⟩
          · go_wp2_with (first
              | (go_at_call 23; (with_reducible refine (HMay.out _).mono ?_); rintro e w6 ⟨rfl, hb6⟩; obtain ⟨t0, t1, t2, t3, t4⟩ := HT.out _ (chain7 hbD hb6); have ho6 := HOw.out _ ((chain7 (chain7 hbr hbD) hb6)); have hs6 : WA.heap.size ≤ w6.heap.size := (chain7 (chain7 hbN hbD) hb6).size; have hn6 := five_new w6 (.int .i64 kd) (.int .i64 ep) (.int .i64 nz) (.int .i64 (lz : Int)) (.slice (some ⟨b0, o + q0, none⟩) ql (cB - q0)) 24)
              | (at_builtin; refine wpList_append_any _ rfl (.tmp 70) (.tmp 72) _ rfl WA.heap.size 24 i0 _ 5 56 Try.underlying34 hi0 hz0 hz1 hz2 rfl (by omega) u7 i (rowC rows) rfl (ho6.alloc _) (w6.heap.size + 1) (some ⟨w6.heap.size, 0, none⟩) 1 1 [.int .i64 kd, .int .i64 ep, .int .i64 nz, .int .i64 (lz : Int), .slice (some ⟨b0, o + q0, none⟩) ql (cB - q0)] rfl hn6 (rowC_five _ _ _ _ _ _ _) (by simp only [maxLen]; omega) (by omega) (by simp; omega) ?_; intro v9 w9 ho9 hg9 hat9))
            have hb9 : Below WA.heap.size WA w9 := ((chain7 (chain7 hbN hbD) hb6).alloc hs6 _).grown hg9 (by simp; omega) (fun j hj => (ho6.lt j hj).1)
            have hsn : rowC rows ++ [.int .i64 kd, .int .i64 ep, .int .i64 nz, .int .i64 (lz : Int), .slice (some ⟨b0, o + q0, none⟩) ql (cB - q0)] = rowC (rows ++ [(s.part t (needN t.length) i, some ⟨b0, o + q0, none⟩, cB - q0)]) := by
              rw [rowC_snoc, HPv.out]
              unfold secC
              simp only [HDl.out]
            rw [hsn] at ho9
            have hct := HCt.out.snoc HBm.out.symm (A := some ⟨b0, o + q0, none⟩) (c := cB - q0) (by rw [HPv.out]; exact HRB.out)
            clear ho6 hg9 hat9 hn6 t0 t1 t2 t3 t4 hb6
            refine ⟨⟨i + 1, by omega, by go_num, _, hct, ho9, hb9⟩, ?_⟩
            simp [intOf]; omega
        · have e0 : decide ((n : Int) < (q2 : Int)) = true := decide_eq_true (by omega)
          have e1 : decide ((q2 : Int) > (n : Int)) = true := decide_eq_true (by omega)
          have e2 : decide (n < q2) = true := decide_eq_true (by omega)
          have ks := fun W => sl_both b0 o n cB q0 n (q0 : Int) (n : Int) rfl rfl (by omega) (by have := HC.out; omega) (by have := HC.out; omega) W
          rw [show n - q0 = ql by omega] at ks
          have z0 : decide ((0 : Int) < (i : Int)) = true := decide_eq_true (by omega)
          have z1 : decide ((i : Int) > 0) = true := decide_eq_true (by omega)
          have z2 : decide (0 < i) = true := decide_eq_true (by omega)
          have HZ := Lib.hid hz
          have y8 : IntKind.i64.wrap (kd + 1) = kd + 1 := by
            have h0 := (Sd.may_iff _).1 (HCt.out.2.2.1 0 (by omega))
            have h1 : 1 ≤ s.kind := h0.1
            have h2 : s.kind ≤ 255 := h0.2.1
            have h3 := HK.out.1
            exact IntWalk.i64_in _ (by omega)
          clear hq0 hq2 hql hlz hnz hz
          go_wp2
          go_region
          have hbN := hbw.out.alloc hbw.out.size (.cells #[.int .i64 (kd + 1), .int .i64 ep, .int .i64 nz, .int .i64 (lz : Int), .slice (some ⟨b0, o + q0, none⟩) ql (cB - q0)] 24)
          have hbD : Below (wr.alloc (.cells #[.int .i64 (kd + 1), .int .i64 ep, .int .i64 nz, .int .i64 (lz : Int), .slice (some ⟨b0, o + q0, none⟩) ql (cB - q0)] 24)).heap.size (wr.alloc (.cells #[.int .i64 (kd + 1), .int .i64 ep, .int .i64 nz, .int .i64 (lz : Int), .slice (some ⟨b0, o + q0, none⟩) ql (cB - q0)] 24)) (wr.alloc (.cells #[.int .i64 (kd + 1), .int .i64 ep, .int .i64 nz, .int .i64 (lz : Int), .slice (some ⟨b0, o + q0, none⟩) ql (cB - q0)] 24)).drew := (Below.refl _ _).drew
          have HT : Hid (∀ W', Below (wr.alloc (.cells #[.int .i64 (kd + 1), .int .i64 ep, .int .i64 nz, .int .i64 (lz : Int), .slice (some ⟨b0, o + q0, none⟩) ql (cB - q0)] 24)).heap.size (wr.alloc (.cells #[.int .i64 (kd + 1), .int .i64 ep, .int .i64 nz, .int .i64 (lz : Int), .slice (some ⟨b0, o + q0, none⟩) ql (cB - q0)] 24)) W' → W'.cell? ⟨wr.heap.size, 0, none⟩ = some (.int .i64 (kd + 1)) ∧ W'.cell? ⟨wr.heap.size, 1, none⟩ = some (.int .i64 ep) ∧ W'.cell? ⟨wr.heap.size, 2, none⟩ = some (.int .i64 nz) ∧ W'.cell? ⟨wr.heap.size, 3, none⟩ = some (.int .i64 (lz : Int)) ∧ W'.cell? ⟨wr.heap.size, 4, none⟩ = some (.slice (some ⟨b0, o + q0, none⟩) ql (cB - q0))) := fun W' hb => by
            have h0 : Blk W' wr.heap.size 24 #[.int .i64 (kd + 1), .int .i64 ep, .int .i64 nz, .int .i64 (lz : Int), .slice (some ⟨b0, o + q0, none⟩) ql (cB - q0)] := Blk.below (Blk.new wr _ _) hb (by simp)
            exact ⟨by rw [h0.cell]; rfl, by rw [h0.cell]; rfl, by rw [h0.cell]; rfl, by rw [h0.cell]; rfl, by rw [h0.cell]; rfl⟩
          have hpt := HPt.out (kd + 1) (by rw [if_neg HZ.out])
          have HPv := Lib.hid hpt
          obtain ⟨bm, hbm⟩ : ∃ x, x = (s.part t (needN t.length) i).may := ⟨_, rfl⟩
          have HMay : Hid (∀ W, Calls Try.prog 23 #[.agg #[.int .i64 (kd + 1), .int .i64 ep, .int .i64 nz, .int .i64 (lz : Int), .slice (some ⟨b0, o + q0, none⟩) ql (cB - q0)]] W fun e w' => e = .returned (.bool bm) ∧ Below W.heap.size W w') := fun W => by
            have h1 := rmay_any (s.part t (needN t.length) i) (some ⟨b0, o + q0, none⟩) (cB - q0) W
            rw [← hbm, hpt] at h1
            unfold secV at h1
            simp only [HDl.out] at h1
            exact h1
          have HBm := Lib.hid hbm
          have HOw : Hid (∀ W, Below wr.heap.size wr W → W.ownsRow WA.heap.size 24 5 u7 i (rowC rows)) := fun W hb => own_turns HO.out (Turns.of_below hb (fun _ => False)) (fun _ _ h => h)
          have hbr : Below wr.heap.size wr (wr.alloc (.cells #[.int .i64 (kd + 1), .int .i64 ep, .int .i64 nz, .int .i64 (lz : Int), .slice (some ⟨b0, o + q0, none⟩) ql (cB - q0)] 24)) := (Below.refl _ _).alloc (Nat.le_refl _) _
          clear hpt hbm c0 c1 c2 g0 g1 g2 hbz ks y4 y5 y6 e0 e1 e2
          obtain ⟨g0, -, -⟩ := HCb.out _ (hbw.out.alloc hbw.out.size (.cells #[.int .i64 kd, .int .i64 ep, .int .i64 nz, .int .i64 (lz : Int), .slice (some ⟨b0, o + q0, none⟩) ql (cB - q0)] 24))
          rcases bm with _ | _
          · go_wp2_with (first
              | (go_at_call 23; (with_reducible refine (HMay.out _).mono ?_); rintro e w6 ⟨rfl, hb6⟩))
            have HVs := split_bad (s := s) (by rw [HNn.out.2.1]; exact hl) (i := i) (by rw [HNn.out.1]; exact hlt) HBm.out.symm
            go_ret2
            exact ⟨none, 0, by rw [HVs]; rfl, by rw [HVs]; exact SL.nil, HBA.out.trans ((chain7 (chain7 hbN hbD) hb6).mono HBA.out.size)⟩
          · go_wp2_with (first
              | (go_at_call 23; (with_reducible refine (HMay.out _).mono ?_); rintro e w6 ⟨rfl, hb6⟩; obtain ⟨t0, t1, t2, t3, t4⟩ := HT.out _ (chain7 hbD hb6); have ho6 := HOw.out _ ((chain7 (chain7 hbr hbD) hb6)); have hs6 : WA.heap.size ≤ w6.heap.size := (chain7 (chain7 hbN hbD) hb6).size; have hn6 := five_new w6 (.int .i64 (kd + 1)) (.int .i64 ep) (.int .i64 nz) (.int .i64 (lz : Int)) (.slice (some ⟨b0, o + q0, none⟩) ql (cB - q0)) 24)
              | (at_builtin; refine wpList_append_any _ rfl (.tmp 70) (.tmp 72) _ rfl WA.heap.size 24 i0 _ 5 56 Try.underlying34 hi0 hz0 hz1 hz2 rfl (by omega) u7 i (rowC rows) rfl (ho6.alloc _) (w6.heap.size + 1) (some ⟨w6.heap.size, 0, none⟩) 1 1 [.int .i64 (kd + 1), .int .i64 ep, .int .i64 nz, .int .i64 (lz : Int), .slice (some ⟨b0, o + q0, none⟩) ql (cB - q0)] rfl hn6 (rowC_five _ _ _ _ _ _ _) (by simp only [maxLen]; omega) (by omega) (by simp; omega) ?_; intro v9 w9 ho9 hg9 hat9))
            have hb9 : Below WA.heap.size WA w9 := ((chain7 (chain7 hbN hbD) hb6).alloc hs6 _).grown hg9 (by simp; omega) (fun j hj => (ho6.lt j hj).1)
            have hsn : rowC rows ++ [.int .i64 (kd + 1), .int .i64 ep, .int .i64 nz, .int .i64 (lz : Int), .slice (some ⟨b0, o + q0, none⟩) ql (cB - q0)] = rowC (rows ++ [(s.part t (needN t.length) i, some ⟨b0, o + q0, none⟩, cB - q0)]) := by
              rw [rowC_snoc, HPv.out]
              unfold secC
              simp only [HDl.out]
            rw [hsn] at ho9
            have hct := HCt.out.snoc HBm.out.symm (A := some ⟨b0, o + q0, none⟩) (c := cB - q0) (by rw [HPv.out]; exact HRB.out)
            clear ho6 hg9 hat9 hn6 t0 t1 t2 t3 t4 hb6
            refine ⟨⟨i + 1, by omega, by go_num, _, hct, ho9, hb9⟩, ?_⟩
            simp [intOf]; omega
      · by_cases hz : i = 0
        · have e0 : decide ((n : Int) < (q2 : Int)) = false := decide_eq_false (by omega)
          have e1 : decide ((q2 : Int) > (n : Int)) = false := decide_eq_false (by omega)
          have e2 : decide (n < q2) = false := decide_eq_false (by omega)
          have ks := fun W => sl_both b0 o n cB q0 q2 (q0 : Int) (q2 : Int) rfl rfl (by omega) (by have := HC.out; omega) (by have := HC.out; omega) W
          rw [show q2 - q0 = ql by omega] at ks
          have z0 : decide ((0 : Int) < (i : Int)) = false := decide_eq_false (by omega)
          have z1 : decide ((i : Int) > 0) = false := decide_eq_false (by omega)
          have z2 : decide (0 < i) = false := decide_eq_false (by omega)
          have HZ := Lib.hid hz
          clear hq0 hq2 hql hlz hnz hz
          go_wp2
          go_region
          have hbN := hbw.out.alloc hbw.out.size (.cells #[.int .i64 kd, .int .i64 ep, .int .i64 nz, .int .i64 (lz : Int), .slice (some ⟨b0, o + q0, none⟩) ql (cB - q0)] 24)
          have hbD : Below (wr.alloc (.cells #[.int .i64 kd, .int .i64 ep, .int .i64 nz, .int .i64 (lz : Int), .slice (some ⟨b0, o + q0, none⟩) ql (cB - q0)] 24)).heap.size (wr.alloc (.cells #[.int .i64 kd, .int .i64 ep, .int .i64 nz, .int .i64 (lz : Int), .slice (some ⟨b0, o + q0, none⟩) ql (cB - q0)] 24)) (wr.alloc (.cells #[.int .i64 kd, .int .i64 ep, .int .i64 nz, .int .i64 (lz : Int), .slice (some ⟨b0, o + q0, none⟩) ql (cB - q0)] 24)).drew := (Below.refl _ _).drew
          have HT : Hid (∀ W', Below (wr.alloc (.cells #[.int .i64 kd, .int .i64 ep, .int .i64 nz, .int .i64 (lz : Int), .slice (some ⟨b0, o + q0, none⟩) ql (cB - q0)] 24)).heap.size (wr.alloc (.cells #[.int .i64 kd, .int .i64 ep, .int .i64 nz, .int .i64 (lz : Int), .slice (some ⟨b0, o + q0, none⟩) ql (cB - q0)] 24)) W' → W'.cell? ⟨wr.heap.size, 0, none⟩ = some (.int .i64 kd) ∧ W'.cell? ⟨wr.heap.size, 1, none⟩ = some (.int .i64 ep) ∧ W'.cell? ⟨wr.heap.size, 2, none⟩ = some (.int .i64 nz) ∧ W'.cell? ⟨wr.heap.size, 3, none⟩ = some (.int .i64 (lz : Int)) ∧ W'.cell? ⟨wr.heap.size, 4, none⟩ = some (.slice (some ⟨b0, o + q0, none⟩) ql (cB - q0))) := fun W' hb => by
            have h0 : Blk W' wr.heap.size 24 #[.int .i64 kd, .int .i64 ep, .int .i64 nz, .int .i64 (lz : Int), .slice (some ⟨b0, o + q0, none⟩) ql (cB - q0)] := Blk.below (Blk.new wr _ _) hb (by simp)
            exact ⟨by rw [h0.cell]; rfl, by rw [h0.cell]; rfl, by rw [h0.cell]; rfl, by rw [h0.cell]; rfl, by rw [h0.cell]; rfl⟩
          have hpt := HPt.out kd (by rw [if_pos HZ.out])
          have HPv := Lib.hid hpt
          obtain ⟨bm, hbm⟩ : ∃ x, x = (s.part t (needN t.length) i).may := ⟨_, rfl⟩
          have HMay : Hid (∀ W, Calls Try.prog 23 #[.agg #[.int .i64 kd, .int .i64 ep, .int .i64 nz, .int .i64 (lz : Int), .slice (some ⟨b0, o + q0, none⟩) ql (cB - q0)]] W fun e w' => e = .returned (.bool bm) ∧ Below W.heap.size W w') := fun W => by
            have h1 := rmay_any (s.part t (needN t.length) i) (some ⟨b0, o + q0, none⟩) (cB - q0) W
            rw [← hbm, hpt] at h1
            unfold secV at h1
            simp only [HDl.out] at h1
            exact h1
          have HBm := Lib.hid hbm
          have HOw : Hid (∀ W, Below wr.heap.size wr W → W.ownsRow WA.heap.size 24 5 u7 i (rowC rows)) := fun W hb => own_turns HO.out (Turns.of_below hb (fun _ => False)) (fun _ _ h => h)
          have hbr : Below wr.heap.size wr (wr.alloc (.cells #[.int .i64 kd, .int .i64 ep, .int .i64 nz, .int .i64 (lz : Int), .slice (some ⟨b0, o + q0, none⟩) ql (cB - q0)] 24)) := (Below.refl _ _).alloc (Nat.le_refl _) _
          clear hpt hbm c0 c1 c2 g0 g1 g2 hbz ks y4 y5 y6 e0 e1 e2
          rcases bm with _ | _
          · go_wp2_with (first
              | (go_at_call 23; (with_reducible refine (HMay.out _).mono ?_); rintro e w6 ⟨rfl, hb6⟩))
            have HVs := split_bad (s := s) (by rw [HNn.out.2.1]; exact hl) (i := i) (by rw [HNn.out.1]; exact hlt) HBm.out.symm
            go_ret2
            exact ⟨none, 0, by rw [HVs]; rfl, by rw [HVs]; exact SL.nil, HBA.out.trans ((chain7 (chain7 hbN hbD) hb6).mono HBA.out.size)⟩
          · go_wp2_with (first
              | (go_at_call 23; (with_reducible refine (HMay.out _).mono ?_); rintro e w6 ⟨rfl, hb6⟩; obtain ⟨t0, t1, t2, t3, t4⟩ := HT.out _ (chain7 hbD hb6); have ho6 := HOw.out _ ((chain7 (chain7 hbr hbD) hb6)); have hs6 : WA.heap.size ≤ w6.heap.size := (chain7 (chain7 hbN hbD) hb6).size; have hn6 := five_new w6 (.int .i64 kd) (.int .i64 ep) (.int .i64 nz) (.int .i64 (lz : Int)) (.slice (some ⟨b0, o + q0, none⟩) ql (cB - q0)) 24)
              | (at_builtin; refine wpList_append_any _ rfl (.tmp 70) (.tmp 72) _ rfl WA.heap.size 24 i0 _ 5 56 Try.underlying34 hi0 hz0 hz1 hz2 rfl (by omega) u7 i (rowC rows) rfl (ho6.alloc _) (w6.heap.size + 1) (some ⟨w6.heap.size, 0, none⟩) 1 1 [.int .i64 kd, .int .i64 ep, .int .i64 nz, .int .i64 (lz : Int), .slice (some ⟨b0, o + q0, none⟩) ql (cB - q0)] rfl hn6 (rowC_five _ _ _ _ _ _ _) (by simp only [maxLen]; omega) (by omega) (by simp; omega) ?_; intro v9 w9 ho9 hg9 hat9))
            have hb9 : Below WA.heap.size WA w9 := ((chain7 (chain7 hbN hbD) hb6).alloc hs6 _).grown hg9 (by simp; omega) (fun j hj => (ho6.lt j hj).1)
            have hsn : rowC rows ++ [.int .i64 kd, .int .i64 ep, .int .i64 nz, .int .i64 (lz : Int), .slice (some ⟨b0, o + q0, none⟩) ql (cB - q0)] = rowC (rows ++ [(s.part t (needN t.length) i, some ⟨b0, o + q0, none⟩, cB - q0)]) := by
              rw [rowC_snoc, HPv.out]
              unfold secC
              simp only [HDl.out]
            rw [hsn] at ho9
            have hct := HCt.out.snoc HBm.out.symm (A := some ⟨b0, o + q0, none⟩) (c := cB - q0) (by rw [HPv.out]; exact HRB.out)
            clear ho6 hg9 hat9 hn6 t0 t1 t2 t3 t4 hb6
            refine ⟨⟨i + 1, by omega, by go_num, _, hct, ho9, hb9⟩, ?_⟩
            simp [intOf]; omega
        · have e0 : decide ((n : Int) < (q2 : Int)) = false := decide_eq_false (by omega)
          have e1 : decide ((q2 : Int) > (n : Int)) = false := decide_eq_false (by omega)
          have e2 : decide (n < q2) = false := decide_eq_false (by omega)
          have ks := fun W => sl_both b0 o n cB q0 q2 (q0 : Int) (q2 : Int) rfl rfl (by omega) (by have := HC.out; omega) (by have := HC.out; omega) W
          rw [show q2 - q0 = ql by omega] at ks
          have z0 : decide ((0 : Int) < (i : Int)) = true := decide_eq_true (by omega)
          have z1 : decide ((i : Int) > 0) = true := decide_eq_true (by omega)
          have z2 : decide (0 < i) = true := decide_eq_true (by omega)
          have HZ := Lib.hid hz
          have y8 : IntKind.i64.wrap (kd + 1) = kd + 1 := by
            have h0 := (Sd.may_iff _).1 (HCt.out.2.2.1 0 (by omega))
            have h1 : 1 ≤ s.kind := h0.1
            have h2 : s.kind ≤ 255 := h0.2.1
            have h3 := HK.out.1
            exact IntWalk.i64_in _ (by omega)
          clear hq0 hq2 hql hlz hnz hz
          go_wp2
          go_region
          have hbN := hbw.out.alloc hbw.out.size (.cells #[.int .i64 (kd + 1), .int .i64 ep, .int .i64 nz, .int .i64 (lz : Int), .slice (some ⟨b0, o + q0, none⟩) ql (cB - q0)] 24)
          have hbD : Below (wr.alloc (.cells #[.int .i64 (kd + 1), .int .i64 ep, .int .i64 nz, .int .i64 (lz : Int), .slice (some ⟨b0, o + q0, none⟩) ql (cB - q0)] 24)).heap.size (wr.alloc (.cells #[.int .i64 (kd + 1), .int .i64 ep, .int .i64 nz, .int .i64 (lz : Int), .slice (some ⟨b0, o + q0, none⟩) ql (cB - q0)] 24)) (wr.alloc (.cells #[.int .i64 (kd + 1), .int .i64 ep, .int .i64 nz, .int .i64 (lz : Int), .slice (some ⟨b0, o + q0, none⟩) ql (cB - q0)] 24)).drew := (Below.refl _ _).drew
          have HT : Hid (∀ W', Below (wr.alloc (.cells #[.int .i64 (kd + 1), .int .i64 ep, .int .i64 nz, .int .i64 (lz : Int), .slice (some ⟨b0, o + q0, none⟩) ql (cB - q0)] 24)).heap.size (wr.alloc (.cells #[.int .i64 (kd + 1), .int .i64 ep, .int .i64 nz, .int .i64 (lz : Int), .slice (some ⟨b0, o + q0, none⟩) ql (cB - q0)] 24)) W' → W'.cell? ⟨wr.heap.size, 0, none⟩ = some (.int .i64 (kd + 1)) ∧ W'.cell? ⟨wr.heap.size, 1, none⟩ = some (.int .i64 ep) ∧ W'.cell? ⟨wr.heap.size, 2, none⟩ = some (.int .i64 nz) ∧ W'.cell? ⟨wr.heap.size, 3, none⟩ = some (.int .i64 (lz : Int)) ∧ W'.cell? ⟨wr.heap.size, 4, none⟩ = some (.slice (some ⟨b0, o + q0, none⟩) ql (cB - q0))) := fun W' hb => by
            have h0 : Blk W' wr.heap.size 24 #[.int .i64 (kd + 1), .int .i64 ep, .int .i64 nz, .int .i64 (lz : Int), .slice (some ⟨b0, o + q0, none⟩) ql (cB - q0)] := Blk.below (Blk.new wr _ _) hb (by simp)
            exact ⟨by rw [h0.cell]; rfl, by rw [h0.cell]; rfl, by rw [h0.cell]; rfl, by rw [h0.cell]; rfl, by rw [h0.cell]; rfl⟩
          have hpt := HPt.out (kd + 1) (by rw [if_neg HZ.out])
          have HPv := Lib.hid hpt
          obtain ⟨bm, hbm⟩ : ∃ x, x = (s.part t (needN t.length) i).may := ⟨_, rfl⟩
          have HMay : Hid (∀ W, Calls Try.prog 23 #[.agg #[.int .i64 (kd + 1), .int .i64 ep, .int .i64 nz, .int .i64 (lz : Int), .slice (some ⟨b0, o + q0, none⟩) ql (cB - q0)]] W fun e w' => e = .returned (.bool bm) ∧ Below W.heap.size W w') := fun W => by
            have h1 := rmay_any (s.part t (needN t.length) i) (some ⟨b0, o + q0, none⟩) (cB - q0) W
            rw [← hbm, hpt] at h1
            unfold secV at h1
            simp only [HDl.out] at h1
            exact h1
          have HBm := Lib.hid hbm
          have HOw : Hid (∀ W, Below wr.heap.size wr W → W.ownsRow WA.heap.size 24 5 u7 i (rowC rows)) := fun W hb => own_turns HO.out (Turns.of_below hb (fun _ => False)) (fun _ _ h => h)
          have hbr : Below wr.heap.size wr (wr.alloc (.cells #[.int .i64 (kd + 1), .int .i64 ep, .int .i64 nz, .int .i64 (lz : Int), .slice (some ⟨b0, o + q0, none⟩) ql (cB - q0)] 24)) := (Below.refl _ _).alloc (Nat.le_refl _) _
          clear hpt hbm c0 c1 c2 g0 g1 g2 hbz ks y4 y5 y6 e0 e1 e2
          obtain ⟨g0, -, -⟩ := HCb.out _ (hbw.out.alloc hbw.out.size (.cells #[.int .i64 kd, .int .i64 ep, .int .i64 nz, .int .i64 (lz : Int), .slice (some ⟨b0, o + q0, none⟩) ql (cB - q0)] 24))
          rcases bm with _ | _
          · go_wp2_with (first
              | (go_at_call 23; (with_reducible refine (HMay.out _).mono ?_); rintro e w6 ⟨rfl, hb6⟩))
            have HVs := split_bad (s := s) (by rw [HNn.out.2.1]; exact hl) (i := i) (by rw [HNn.out.1]; exact hlt) HBm.out.symm
            go_ret2
            exact ⟨none, 0, by rw [HVs]; rfl, by rw [HVs]; exact SL.nil, HBA.out.trans ((chain7 (chain7 hbN hbD) hb6).mono HBA.out.size)⟩
          · go_wp2_with (first
              | (go_at_call 23; (with_reducible refine (HMay.out _).mono ?_); rintro e w6 ⟨rfl, hb6⟩; obtain ⟨t0, t1, t2, t3, t4⟩ := HT.out _ (chain7 hbD hb6); have ho6 := HOw.out _ ((chain7 (chain7 hbr hbD) hb6)); have hs6 : WA.heap.size ≤ w6.heap.size := (chain7 (chain7 hbN hbD) hb6).size; have hn6 := five_new w6 (.int .i64 (kd + 1)) (.int .i64 ep) (.int .i64 nz) (.int .i64 (lz : Int)) (.slice (some ⟨b0, o + q0, none⟩) ql (cB - q0)) 24)
              | (at_builtin; refine wpList_append_any _ rfl (.tmp 70) (.tmp 72) _ rfl WA.heap.size 24 i0 _ 5 56 Try.underlying34 hi0 hz0 hz1 hz2 rfl (by omega) u7 i (rowC rows) rfl (ho6.alloc _) (w6.heap.size + 1) (some ⟨w6.heap.size, 0, none⟩) 1 1 [.int .i64 (kd + 1), .int .i64 ep, .int .i64 nz, .int .i64 (lz : Int), .slice (some ⟨b0, o + q0, none⟩) ql (cB - q0)] rfl hn6 (rowC_five _ _ _ _ _ _ _) (by simp only [maxLen]; omega) (by omega) (by simp; omega) ?_; intro v9 w9 ho9 hg9 hat9))
            have hb9 : Below WA.heap.size WA w9 := ((chain7 (chain7 hbN hbD) hb6).alloc hs6 _).grown hg9 (by simp; omega) (fun j hj => (ho6.lt j hj).1)
            have hsn : rowC rows ++ [.int .i64 (kd + 1), .int .i64 ep, .int .i64 nz, .int .i64 (lz : Int), .slice (some ⟨b0, o + q0, none⟩) ql (cB - q0)] = rowC (rows ++ [(s.part t (needN t.length) i, some ⟨b0, o + q0, none⟩, cB - q0)]) := by
              rw [rowC_snoc, HPv.out]
              unfold secC
              simp only [HDl.out]
            rw [hsn] at ho9
            have hct := HCt.out.snoc HBm.out.symm (A := some ⟨b0, o + q0, none⟩) (c := cB - q0) (by rw [HPv.out]; exact HRB.out)
            clear ho6 hg9 hat9 hn6 t0 t1 t2 t3 t4 hb6
            refine ⟨⟨i + 1, by omega, by go_num, _, hct, ho9, hb9⟩, ?_⟩
            simp [intOf]; omega
    · obtain rfl : i = N := by omega
      have dl : decide ((i : Int) < (i : Int)) = false := decide_eq_false (by omega)
      obtain ⟨A9, c9, rfl⟩ := own_slice7 HO.out
      have hVs : splitS s t = ((List.range i).map (s.part t i), 0) := by
        have := split_ok (s := s) (by rw [HNn.out.2.1]; exact hl) (by rw [HNn.out.1]; have := HNn.out.2.2; omega) (fun j hj => HCt.out.2.2.1 j (by rw [HNn.out.1] at hj; exact hj))
        rw [HNn.out.1] at this
        exact this
      have hrows : rows.map (·.1) = (List.range i).map (s.part t i) := by have := HCt.out.2.1; rw [HNn.out.1] at this; exact this
      have hbf : Below w.heap.size w wr := HBA.out.trans (hbw.out.mono HBA.out.size)
      have HG : Hid (GivesSL (splitS s t) w (.returned (.tuple #[.slice A9 i c9, .int .i64 0])) wr) := by
        refine ⟨A9, c9, ?_, ?_, hbf⟩
        · rw [hVs]; simp
        · rw [hVs, ← hrows]
          exact SL.of_own HO.out HCt.out.1.symm (fun x hx => rb_up7 (HCt.out.2.2.2 x hx) hbf)
      clear hVs hrows hbf HO HCt hbw
      go_wp2
      go_ret2
      exact HG.out
/-- The reference's Split. -/
theorem rsplit_any (s : Sd) (A : Option Addr) (c : Nat) (t : List UInt8) (B : Option Addr) (cB : Nat) (w : World) (hl : t.length ≤ 1000000) (hr : RB w w.heap.size B t) (hc : t.length ≤ cB) (hcm : cB ≤ 9223372036854775807) :
    Calls Try.prog 14 #[secV s A c, .slice B t.length cB] w (GivesSL (splitS s t) w) := by
  by_cases h0 : t.length = 0
  · exact rsplit_zero s A c t _ B cB w rfl h0
  · by_cases hb : s.number < 0 ∨ 2147483647 < s.number
    · exact rsplit_num s A c t _ B cB w rfl h0 hl hb
    · exact rsplit_in s A c t _ B cB w rfl h0 hl (by omega) (by omega) hr hc hcm
end Go.Proofs.Ytepeoggacmaenaa
