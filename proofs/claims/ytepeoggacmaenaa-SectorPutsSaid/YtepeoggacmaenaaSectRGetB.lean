/- The walk of the reference's Get of a sector (layer 7), past the sum. -/
import Derived.Test.YtepeoggacmaenaaSectRGet
set_option linter.unusedVariables false
namespace Go.Proofs.Ytepeoggacmaenaa
open Go.RowKit

theorem Try.secBuild5 (k e n l : Int) (A : Option Addr) (m c : Nat) (w : World) : Sem.run Try.prog (Instr.build 24 #[(0, .int .i64 k), (1, .int .i64 e), (2, .int .i64 n), (3, .int .i64 l), (4, .slice A m c)]) w = .ok (.agg #[.int .i64 k, .int .i64 e, .int .i64 n, .int .i64 l, .slice A m c]) w := by kernel_rfl

set_option maxRecDepth 100000 in
set_option maxHeartbeats 4000000 in
theorem rget_in4 (b M : List UInt8) (b0 o c : Nat) (w : World) (h64 : b.length = 64) (hr : RB w w.heap.size (some ⟨b0, o, none⟩) b) (hc : 64 ≤ c) (hcm : c ≤ 9223372036854775807) (ho : openL b = some M) (h1 : unfixL ((M.drop 4).take 4) ≤ 2147483647) (h2 : unfixL ((M.drop 8).take 4) ≤ 2147483647) (h3 : (M.getD 1 0).toNat ≤ 48) (hm : (secOf M).may = false) :
    Calls Try.prog 12 #[.slice (some ⟨b0, o, none⟩) 64 c] w (GivesSc (getS b) w) := by
  have hM60 : M.length = 60 := by have := (openL_some ho).2; omega
  have hMb : M = b.take 60 := by
    have h1 := (openL_some ho).1
    rw [h1]; unfold sealL; rw [List.take_append_of_le_length (by omega), List.take_of_length_le (by omega)]
  have hrM : RB w w.heap.size (some ⟨b0, o, none⟩) M := by rw [hMb]; exact rb_take hr 60 (by omega)
  have HO : Hid (∀ W, Below w.heap.size w W → Calls Try.prog 29 #[.slice (some ⟨b0, o, none⟩) 64 c] W fun e w' => e = .returned (.tuple #[.slice (some ⟨b0, o, none⟩) 60 c, .int .i64 0]) ∧ Below W.heap.size W w') := fun W hb => by
    have := refOpen_view b M (some ⟨b0, o, none⟩) c W (rb_up7 hr hb) (by omega) hcm (by omega) ho
    rw [h64, hM60] at this
    exact this
  obtain ⟨lv, hlv⟩ : ∃ x, x = unfixL ((M.drop 2).take 2) := ⟨_, rfl⟩
  obtain ⟨ev, hev⟩ : ∃ x, x = unfixL ((M.drop 4).take 4) := ⟨_, rfl⟩
  obtain ⟨nv, hnv⟩ : ∃ x, x = unfixL ((M.drop 8).take 4) := ⟨_, rfl⟩
  obtain ⟨kd, hkd⟩ : ∃ x, x = (M.getD 0 0).toNat := ⟨_, rfl⟩
  obtain ⟨nn, hnn⟩ : ∃ x, x = (M.getD 1 0).toNat := ⟨_, rfl⟩
  have lvs : lv ≤ 65535 := by
    have := unfixL_lt ((M.drop 2).take 2)
    have hl : ((M.drop 2).take 2).length = 2 := by rw [List.length_take, List.length_drop]; omega
    rw [hl] at this
    have e : (256 : Nat) ^ 2 = 65536 := rfl
    omega
  have hnn256 : nn < 256 := by rw [hnn]; exact (M.getD 1 0).toNat_lt
  have hkd256 : kd < 256 := by rw [hkd]; exact (M.getD 0 0).toNat_lt
  have HU : Hid (∀ W (k q : Nat) (r : Nat × Nat), Below w.heap.size w W → k + q ≤ 60 → 1 ≤ q → q ≤ 4 → unfixR ((M.drop k).take q) = r → Calls Try.prog 30 #[.slice (some ⟨b0, o + k, none⟩) q (c - k)] W fun e w' => e = .returned (.tuple #[.int .i64 (r.1 : Int), .int .i64 (r.2 : Int)]) ∧ W = w') := fun W k q r hb h1 h2 h3 hq => by
    have hl : ((M.drop k).take q).length = q := by rw [List.length_take, List.length_drop]; omega
    have := refUnfix_any ((M.drop k).take q) (some ⟨b0, o + k, none⟩) (c - k) _ W (sub_rb (hrM.below hb) k q (by omega) (show M.length < c by omega)) (by omega)
    rw [hl, hq] at this
    exact this
  have l2 : ((M.drop 2).take 2).length = 2 := by rw [List.length_take, List.length_drop]; omega
  have l4 : ((M.drop 4).take 4).length = 4 := by rw [List.length_take, List.length_drop]; omega
  have l8 : ((M.drop 8).take 4).length = 4 := by rw [List.length_take, List.length_drop]; omega
  have HU1 : Hid (∀ W, Below w.heap.size w W → Calls Try.prog 30 #[.slice (some ⟨b0, o + 2, none⟩) 2 (c - 2)] W fun e w' => e = .returned (.tuple #[.int .i64 (lv : Int), .int .i64 0]) ∧ W = w') := fun W hb => by
    rw [hlv]; exact HU.out W 2 2 (_, 0) hb (by omega) (by omega) (by omega) (unfix_ok l2 (by omega) (by omega) (by omega))
  have HCell : Hid (∀ W, Below w.heap.size w W → W.cell? ⟨b0, o, none⟩ = some (.int .u8 (kd : Int)) ∧ W.cell? ⟨b0, o + 1, none⟩ = some (.int .u8 (nn : Int))) := fun W hb => by
    obtain ⟨b', o', e, _, hcc⟩ := (hrM.below hb).at_ (by omega)
    simp only [Option.some.injEq, Addr.mk.injEq, and_true] at e
    obtain ⟨rfl, rfl⟩ := e
    have c0 := hcc 0 (by omega)
    have c1 := hcc 1 (by omega)
    refine ⟨?_, ?_⟩
    · rw [Nat.add_zero] at c0
      rw [c0, hkd]; simp [List.getD, List.getElem?_eq_getElem (show 0 < M.length by omega)]
    · rw [c1, hnn]; simp [List.getD, List.getElem?_eq_getElem (show 1 < M.length by omega)]
  have HB : Hid (Below w.heap.size w (w.alloc (.cells #[.int .i64 0, .int .i64 0, .int .i64 0, .int .i64 0, .slice none 0 0] 24))) := (Below.refl _ _).alloc (Nat.le_refl _) _
  have HC := Lib.hid (fun W hb => res_at w W hb)
  have nb := fun w' => Try.secBuild0 w'
  have a24 := fun w' => Try.aggSec w'
  have s24 := fun w' => Try.sizeSec w'
  have k1 := fun W => sl_both b0 o 60 c 2 4 2 4 rfl rfl (by omega) (by omega) (by omega) W
  have k2 := fun W => sl_both b0 o 60 c 4 8 4 8 rfl rfl (by omega) (by omega) (by omega) W
  have k3 := fun W => sl_both b0 o 60 c 8 12 8 12 rfl rfl (by omega) (by omega) (by omega) W
  simp only [Nat.reduceSub] at k1 k2 k3
  have HU2 : Hid (∀ W, Below w.heap.size w W → Calls Try.prog 30 #[.slice (some ⟨b0, o + 4, none⟩) 4 (c - 4)] W fun e w' => e = .returned (.tuple #[.int .i64 (ev : Int), .int .i64 0]) ∧ W = w') := fun W hb => by
    rw [hev]; exact HU.out W 4 4 (_, 0) hb (by omega) (by omega) (by omega) (unfix_ok l4 (by omega) (by omega) (by omega))
  have HU3 : Hid (∀ W, Below w.heap.size w W → Calls Try.prog 30 #[.slice (some ⟨b0, o + 8, none⟩) 4 (c - 8)] W fun e w' => e = .returned (.tuple #[.int .i64 (nv : Int), .int .i64 0]) ∧ W = w') := fun W hb => by
    rw [hnv]; exact HU.out W 8 4 (_, 0) hb (by omega) (by omega) (by omega) (unfix_ok l8 (by omega) (by omega) (by omega))
  have d0 : decide ((48 : Int) < (nn : Int)) = false := decide_eq_false (by omega)
  have d1 : decide ((nn : Int) > 48) = false := decide_eq_false (by omega)
  have d2 : decide (48 < nn) = false := decide_eq_false (by omega)
  have e12 : IntKind.i64.wrap ((12 : Int) + (nn : Int)) = (12 : Int) + (nn : Int) := IntWalk.i64_in _ (by omega)
  have k4 := fun W => sl_both b0 o 60 c 12 (12 + nn) 12 ((12 : Int) + (nn : Int)) rfl (by omega) (by omega) (by omega) (by omega) W
  rw [show 12 + nn - 12 = nn by omega] at k4
  have n5 := fun w' => Try.secBuild5 (kd : Int) (ev : Int) (nv : Int) (lv : Int) (some ⟨b0, o + 12, none⟩) nn (c - 12) w'
  have hS : secOf M = ⟨(kd : Int), (ev : Int), (nv : Int), (lv : Int), (M.drop 12).take nn⟩ := by unfold secOf; rw [hkd, hev, hnv, hlv, hnn]
  have hDl : ((M.drop 12).take nn).length = nn := by rw [List.length_take, List.length_drop]; omega
  have HDr : Hid (∀ W, Below w.heap.size w W → RBc W (some ⟨b0, o + 12, none⟩) (secOf M).data (c - 12)) := fun W hb => by
    rw [hS]; exact ⟨(sub_rb (hrM.below hb) 12 nn (by omega) (show M.length < c by omega)).more hb.size, by show ((M.drop 12).take nn).length ≤ c - 12; rw [hDl]; omega, by omega⟩
  have hVv : secV (secOf M) (some ⟨b0, o + 12, none⟩) (c - 12) = .agg #[.int .i64 (kd : Int), .int .i64 (ev : Int), .int .i64 (nv : Int), .int .i64 (lv : Int), .slice (some ⟨b0, o + 12, none⟩) nn (c - 12)] := by rw [hS]; unfold secV; simp only [hDl]
  have HSb : Hid (∀ W, Below w.heap.size w W → (convert 22 9 (.slice (some ⟨b0, o, none⟩) 64 c)).run Try.prog W = .ok (.string ⟨b.toArray⟩) W) := fun W hb => aw_str (rb_up7 hr hb) 64 c h64.symm
  have HCS : Hid (∀ W W' : World, Below (W.alloc (.cells #[.int .i64 (kd : Int), .int .i64 (ev : Int), .int .i64 (nv : Int), .int .i64 (lv : Int), .slice (some ⟨b0, o + 12, none⟩) nn (c - 12)] 24)).heap.size (W.alloc (.cells #[.int .i64 (kd : Int), .int .i64 (ev : Int), .int .i64 (nv : Int), .int .i64 (lv : Int), .slice (some ⟨b0, o + 12, none⟩) nn (c - 12)] 24)) W' → W'.cell? ⟨W.heap.size, 0, none⟩ = some (.int .i64 (kd : Int)) ∧ W'.cell? ⟨W.heap.size, 1, none⟩ = some (.int .i64 (ev : Int)) ∧ W'.cell? ⟨W.heap.size, 2, none⟩ = some (.int .i64 (nv : Int)) ∧ W'.cell? ⟨W.heap.size, 3, none⟩ = some (.int .i64 (lv : Int)) ∧ W'.cell? ⟨W.heap.size, 4, none⟩ = some (.slice (some ⟨b0, o + 12, none⟩) nn (c - 12))) := fun W W' hb => by
    have h0 : Blk W' W.heap.size 24 #[.int .i64 (kd : Int), .int .i64 (ev : Int), .int .i64 (nv : Int), .int .i64 (lv : Int), .slice (some ⟨b0, o + 12, none⟩) nn (c - 12)] := Blk.below (Blk.new W _ _) hb (by simp)
    exact ⟨by rw [h0.cell]; rfl, by rw [h0.cell]; rfl, by rw [h0.cell]; rfl, by rw [h0.cell]; rfl, by rw [h0.cell]; rfl⟩
  have HV : Hid (getS b = (.zero, 5)) := getS_form h64 ho (fun hF => by have h5 := ((body_secOf M (by omega)).2 hF).1; rw [hm] at h5; cases h5)
  have HPut : Hid (∀ W, Below w.heap.size w W → Calls Try.prog 9 #[.agg #[.int .i64 (kd : Int), .int .i64 (ev : Int), .int .i64 (nv : Int), .int .i64 (lv : Int), .slice (some ⟨b0, o + 12, none⟩) nn (c - 12)]] W fun e w' => e = .returned (.tuple #[.slice none 0 0, .int .i64 1]) ∧ Below W.heap.size W w') := fun W hb => by
    rw [← hVv]; exact rput_no _ _ _ W hm
  clear hM60 hMb hrM h64 hr hcm ho hlv hev hnv hkd hnn lvs l2 l4 l8 HU h1 h2 h3 hDl hS hVv hm
  go_enter Try.func12, Try.ntmps12
  go_wp2_with (first
    | (go_at_call 29; (with_reducible refine (HO.out _ HB.out).mono ?_); rintro e w1 ⟨rfl, hb1⟩; obtain ⟨⟨p0, p1, p2, p3, p4⟩, f0, f1, f2, f3, f4⟩ := HC.out _ hb1; have b1 := chain7 HB.out hb1; obtain ⟨q0, q1⟩ := HCell.out _ b1)
    | (go_at_call 30; (with_reducible refine (HU1.out _ b1).mono ?_); rintro e w2 ⟨rfl, rfl⟩)
    | (go_at_call 30; (with_reducible refine (HU2.out _ b1).mono ?_); rintro e w2 ⟨rfl, rfl⟩)
    | (go_at_call 30; (with_reducible refine (HU3.out _ b1).mono ?_); rintro e w2 ⟨rfl, rfl⟩))
  have b1a := b1.alloc b1.size (.cells #[.int .i64 0, .int .i64 0, .int .i64 0, .int .i64 0, .slice none 0 0] 24)
  obtain ⟨q0a, -⟩ := HCell.out _ b1a
  go_region
  have bA : Below w.heap.size w (w1.alloc (.cells #[.int .i64 (kd : Int), .int .i64 (ev : Int), .int .i64 (nv : Int), .int .i64 (lv : Int), .slice (some ⟨b0, o + 12, none⟩) nn (c - 12)] 24)).drew := (b1.alloc b1.size _).drew
  have hbA := (hb1.alloc hb1.size (.cells #[.int .i64 (kd : Int), .int .i64 (ev : Int), .int .i64 (nv : Int), .int .i64 (lv : Int), .slice (some ⟨b0, o + 12, none⟩) nn (c - 12)] 24)).drew
  have hbS : Below (w1.alloc (.cells #[.int .i64 (kd : Int), .int .i64 (ev : Int), .int .i64 (nv : Int), .int .i64 (lv : Int), .slice (some ⟨b0, o + 12, none⟩) nn (c - 12)] 24)).heap.size (w1.alloc (.cells #[.int .i64 (kd : Int), .int .i64 (ev : Int), .int .i64 (nv : Int), .int .i64 (lv : Int), .slice (some ⟨b0, o + 12, none⟩) nn (c - 12)] 24)) (w1.alloc (.cells #[.int .i64 (kd : Int), .int .i64 (ev : Int), .int .i64 (nv : Int), .int .i64 (lv : Int), .slice (some ⟨b0, o + 12, none⟩) nn (c - 12)] 24)).drew := (Below.refl _ _).drew
  obtain ⟨t0, t1, t2, t3, t4⟩ := HCS.out _ _ hbS
  have HCS1 := Lib.hid (HCS.out w1)
  clear p0 p1 p2 p3 p4 f0 f1 f2 f3 f4 q0 q1 HCell HU1 HU2 HU3 HO k1 k2 k3 k4 e12 n5 HCS
  generalize hWA : (w1.alloc (.cells #[.int .i64 (kd : Int), .int .i64 (ev : Int), .int .i64 (nv : Int), .int .i64 (lv : Int), .slice (some ⟨b0, o + 12, none⟩) nn (c - 12)] 24)) = WA at bA hbA hbS t0 t1 t2 t3 t4 HCS1 ⊢
  generalize w1.heap.size = g3 at t0 t1 t2 t3 t4 HCS1 ⊢
  clear hWA
  go_wp2_with (first
    | (go_at_call 9; (with_reducible refine (HPut.out _ bA).mono ?_); rintro e w6 ⟨rfl, hb6⟩; have b6 := chain7 bA hb6; obtain ⟨⟨p0, p1, p2, p3, p4⟩, f0, f1, f2, f3, f4⟩ := HC.out _ (chain7 hbA hb6); have sb := HSb.out _ b6; clear t0 t1 t2 t3 t4; obtain ⟨t0, t1, t2, t3, t4⟩ := HCS1.out _ (chain7 hbS hb6)))
  refine bodyPost_ret (v := .tuple #[.agg #[.int .i64 0, .int .i64 0, .int .i64 0, .int .i64 0, .slice none 0 0], .int .i64 5]) (by simp [results, Try.results12, go_sem, p0, p1, p2, p3, p4]) rfl ⟨none, 0, by rw [HV.out]; rfl, by rw [HV.out]; exact rbc_none _, below_five b6 (Nat.le_refl _) _ _ _ _ _⟩

set_option maxRecDepth 100000 in
set_option maxHeartbeats 4000000 in
theorem rget_in5 (b M : List UInt8) (b0 o c : Nat) (w : World) (h64 : b.length = 64) (hr : RB w w.heap.size (some ⟨b0, o, none⟩) b) (hc : 64 ≤ c) (hcm : c ≤ 9223372036854775807) (ho : openL b = some M) (h1 : unfixL ((M.drop 4).take 4) ≤ 2147483647) (h2 : unfixL ((M.drop 8).take 4) ≤ 2147483647) (h3 : (M.getD 1 0).toNat ≤ 48) (hm : (secOf M).may = true) (hbd : ¬ (secOf M).body = M) :
    Calls Try.prog 12 #[.slice (some ⟨b0, o, none⟩) 64 c] w (GivesSc (getS b) w) := by
  have hM60 : M.length = 60 := by have := (openL_some ho).2; omega
  have hMb : M = b.take 60 := by
    have h1 := (openL_some ho).1
    rw [h1]; unfold sealL; rw [List.take_append_of_le_length (by omega), List.take_of_length_le (by omega)]
  have hrM : RB w w.heap.size (some ⟨b0, o, none⟩) M := by rw [hMb]; exact rb_take hr 60 (by omega)
  have HO : Hid (∀ W, Below w.heap.size w W → Calls Try.prog 29 #[.slice (some ⟨b0, o, none⟩) 64 c] W fun e w' => e = .returned (.tuple #[.slice (some ⟨b0, o, none⟩) 60 c, .int .i64 0]) ∧ Below W.heap.size W w') := fun W hb => by
    have := refOpen_view b M (some ⟨b0, o, none⟩) c W (rb_up7 hr hb) (by omega) hcm (by omega) ho
    rw [h64, hM60] at this
    exact this
  obtain ⟨lv, hlv⟩ : ∃ x, x = unfixL ((M.drop 2).take 2) := ⟨_, rfl⟩
  obtain ⟨ev, hev⟩ : ∃ x, x = unfixL ((M.drop 4).take 4) := ⟨_, rfl⟩
  obtain ⟨nv, hnv⟩ : ∃ x, x = unfixL ((M.drop 8).take 4) := ⟨_, rfl⟩
  obtain ⟨kd, hkd⟩ : ∃ x, x = (M.getD 0 0).toNat := ⟨_, rfl⟩
  obtain ⟨nn, hnn⟩ : ∃ x, x = (M.getD 1 0).toNat := ⟨_, rfl⟩
  have lvs : lv ≤ 65535 := by
    have := unfixL_lt ((M.drop 2).take 2)
    have hl : ((M.drop 2).take 2).length = 2 := by rw [List.length_take, List.length_drop]; omega
    rw [hl] at this
    have e : (256 : Nat) ^ 2 = 65536 := rfl
    omega
  have hnn256 : nn < 256 := by rw [hnn]; exact (M.getD 1 0).toNat_lt
  have hkd256 : kd < 256 := by rw [hkd]; exact (M.getD 0 0).toNat_lt
  have HU : Hid (∀ W (k q : Nat) (r : Nat × Nat), Below w.heap.size w W → k + q ≤ 60 → 1 ≤ q → q ≤ 4 → unfixR ((M.drop k).take q) = r → Calls Try.prog 30 #[.slice (some ⟨b0, o + k, none⟩) q (c - k)] W fun e w' => e = .returned (.tuple #[.int .i64 (r.1 : Int), .int .i64 (r.2 : Int)]) ∧ W = w') := fun W k q r hb h1 h2 h3 hq => by
    have hl : ((M.drop k).take q).length = q := by rw [List.length_take, List.length_drop]; omega
    have := refUnfix_any ((M.drop k).take q) (some ⟨b0, o + k, none⟩) (c - k) _ W (sub_rb (hrM.below hb) k q (by omega) (show M.length < c by omega)) (by omega)
    rw [hl, hq] at this
    exact this
  have l2 : ((M.drop 2).take 2).length = 2 := by rw [List.length_take, List.length_drop]; omega
  have l4 : ((M.drop 4).take 4).length = 4 := by rw [List.length_take, List.length_drop]; omega
  have l8 : ((M.drop 8).take 4).length = 4 := by rw [List.length_take, List.length_drop]; omega
  have HU1 : Hid (∀ W, Below w.heap.size w W → Calls Try.prog 30 #[.slice (some ⟨b0, o + 2, none⟩) 2 (c - 2)] W fun e w' => e = .returned (.tuple #[.int .i64 (lv : Int), .int .i64 0]) ∧ W = w') := fun W hb => by
    rw [hlv]; exact HU.out W 2 2 (_, 0) hb (by omega) (by omega) (by omega) (unfix_ok l2 (by omega) (by omega) (by omega))
  have HCell : Hid (∀ W, Below w.heap.size w W → W.cell? ⟨b0, o, none⟩ = some (.int .u8 (kd : Int)) ∧ W.cell? ⟨b0, o + 1, none⟩ = some (.int .u8 (nn : Int))) := fun W hb => by
    obtain ⟨b', o', e, _, hcc⟩ := (hrM.below hb).at_ (by omega)
    simp only [Option.some.injEq, Addr.mk.injEq, and_true] at e
    obtain ⟨rfl, rfl⟩ := e
    have c0 := hcc 0 (by omega)
    have c1 := hcc 1 (by omega)
    refine ⟨?_, ?_⟩
    · rw [Nat.add_zero] at c0
      rw [c0, hkd]; simp [List.getD, List.getElem?_eq_getElem (show 0 < M.length by omega)]
    · rw [c1, hnn]; simp [List.getD, List.getElem?_eq_getElem (show 1 < M.length by omega)]
  have HB : Hid (Below w.heap.size w (w.alloc (.cells #[.int .i64 0, .int .i64 0, .int .i64 0, .int .i64 0, .slice none 0 0] 24))) := (Below.refl _ _).alloc (Nat.le_refl _) _
  have HC := Lib.hid (fun W hb => res_at w W hb)
  have nb := fun w' => Try.secBuild0 w'
  have a24 := fun w' => Try.aggSec w'
  have s24 := fun w' => Try.sizeSec w'
  have k1 := fun W => sl_both b0 o 60 c 2 4 2 4 rfl rfl (by omega) (by omega) (by omega) W
  have k2 := fun W => sl_both b0 o 60 c 4 8 4 8 rfl rfl (by omega) (by omega) (by omega) W
  have k3 := fun W => sl_both b0 o 60 c 8 12 8 12 rfl rfl (by omega) (by omega) (by omega) W
  simp only [Nat.reduceSub] at k1 k2 k3
  have HU2 : Hid (∀ W, Below w.heap.size w W → Calls Try.prog 30 #[.slice (some ⟨b0, o + 4, none⟩) 4 (c - 4)] W fun e w' => e = .returned (.tuple #[.int .i64 (ev : Int), .int .i64 0]) ∧ W = w') := fun W hb => by
    rw [hev]; exact HU.out W 4 4 (_, 0) hb (by omega) (by omega) (by omega) (unfix_ok l4 (by omega) (by omega) (by omega))
  have HU3 : Hid (∀ W, Below w.heap.size w W → Calls Try.prog 30 #[.slice (some ⟨b0, o + 8, none⟩) 4 (c - 8)] W fun e w' => e = .returned (.tuple #[.int .i64 (nv : Int), .int .i64 0]) ∧ W = w') := fun W hb => by
    rw [hnv]; exact HU.out W 8 4 (_, 0) hb (by omega) (by omega) (by omega) (unfix_ok l8 (by omega) (by omega) (by omega))
  have d0 : decide ((48 : Int) < (nn : Int)) = false := decide_eq_false (by omega)
  have d1 : decide ((nn : Int) > 48) = false := decide_eq_false (by omega)
  have d2 : decide (48 < nn) = false := decide_eq_false (by omega)
  have e12 : IntKind.i64.wrap ((12 : Int) + (nn : Int)) = (12 : Int) + (nn : Int) := IntWalk.i64_in _ (by omega)
  have k4 := fun W => sl_both b0 o 60 c 12 (12 + nn) 12 ((12 : Int) + (nn : Int)) rfl (by omega) (by omega) (by omega) (by omega) W
  rw [show 12 + nn - 12 = nn by omega] at k4
  have n5 := fun w' => Try.secBuild5 (kd : Int) (ev : Int) (nv : Int) (lv : Int) (some ⟨b0, o + 12, none⟩) nn (c - 12) w'
  have hS : secOf M = ⟨(kd : Int), (ev : Int), (nv : Int), (lv : Int), (M.drop 12).take nn⟩ := by unfold secOf; rw [hkd, hev, hnv, hlv, hnn]
  have hDl : ((M.drop 12).take nn).length = nn := by rw [List.length_take, List.length_drop]; omega
  have HDr : Hid (∀ W, Below w.heap.size w W → RBc W (some ⟨b0, o + 12, none⟩) (secOf M).data (c - 12)) := fun W hb => by
    rw [hS]; exact ⟨(sub_rb (hrM.below hb) 12 nn (by omega) (show M.length < c by omega)).more hb.size, by show ((M.drop 12).take nn).length ≤ c - 12; rw [hDl]; omega, by omega⟩
  have hVv : secV (secOf M) (some ⟨b0, o + 12, none⟩) (c - 12) = .agg #[.int .i64 (kd : Int), .int .i64 (ev : Int), .int .i64 (nv : Int), .int .i64 (lv : Int), .slice (some ⟨b0, o + 12, none⟩) nn (c - 12)] := by rw [hS]; unfold secV; simp only [hDl]
  have HSb : Hid (∀ W, Below w.heap.size w W → (convert 22 9 (.slice (some ⟨b0, o, none⟩) 64 c)).run Try.prog W = .ok (.string ⟨b.toArray⟩) W) := fun W hb => aw_str (rb_up7 hr hb) 64 c h64.symm
  have HCS : Hid (∀ W W' : World, Below (W.alloc (.cells #[.int .i64 (kd : Int), .int .i64 (ev : Int), .int .i64 (nv : Int), .int .i64 (lv : Int), .slice (some ⟨b0, o + 12, none⟩) nn (c - 12)] 24)).heap.size (W.alloc (.cells #[.int .i64 (kd : Int), .int .i64 (ev : Int), .int .i64 (nv : Int), .int .i64 (lv : Int), .slice (some ⟨b0, o + 12, none⟩) nn (c - 12)] 24)) W' → W'.cell? ⟨W.heap.size, 0, none⟩ = some (.int .i64 (kd : Int)) ∧ W'.cell? ⟨W.heap.size, 1, none⟩ = some (.int .i64 (ev : Int)) ∧ W'.cell? ⟨W.heap.size, 2, none⟩ = some (.int .i64 (nv : Int)) ∧ W'.cell? ⟨W.heap.size, 3, none⟩ = some (.int .i64 (lv : Int)) ∧ W'.cell? ⟨W.heap.size, 4, none⟩ = some (.slice (some ⟨b0, o + 12, none⟩) nn (c - 12))) := fun W W' hb => by
    have h0 : Blk W' W.heap.size 24 #[.int .i64 (kd : Int), .int .i64 (ev : Int), .int .i64 (nv : Int), .int .i64 (lv : Int), .slice (some ⟨b0, o + 12, none⟩) nn (c - 12)] := Blk.below (Blk.new W _ _) hb (by simp)
    exact ⟨by rw [h0.cell]; rfl, by rw [h0.cell]; rfl, by rw [h0.cell]; rfl, by rw [h0.cell]; rfl, by rw [h0.cell]; rfl⟩
  have HV : Hid (getS b = (.zero, 5)) := getS_form h64 ho (fun hF => hbd ((body_secOf M (by omega)).2 hF).2)
  have h48 : (secOf M).data.length ≤ 48 := ((Sd.may_iff _).1 hm).2.2.2.2.2.2.2.2
  obtain ⟨S, hSS⟩ : ∃ S, S = (secOf M).bytes := ⟨_, rfl⟩
  have hS64 : S.length = 64 := by rw [hSS]; exact Sd.bytes_length _ h48
  have HPut : Hid (∀ W, Below w.heap.size w W → Calls Try.prog 9 #[.agg #[.int .i64 (kd : Int), .int .i64 (ev : Int), .int .i64 (nv : Int), .int .i64 (lv : Int), .slice (some ⟨b0, o + 12, none⟩) nn (c - 12)]] W fun e w' => ∃ A c, e = .returned (.tuple #[.slice A 64 c, .int .i64 0]) ∧ Hid ((convert 22 9 (.slice A 64 c)).run Try.prog w' = .ok (.string ⟨S.toArray⟩) w') ∧ Below W.heap.size W w') := fun W hb => by
    rw [← hVv]
    refine (rput_yes _ _ _ W hm (HDr.out W hb).1).mono fun e w' hh => ?_
    obtain ⟨A, c, he, ho, hb⟩ := hh
    rw [← hSS] at he ho
    rw [hS64] at he
    exact ⟨A, c, he, aw_str (own_rb ho) 64 c hS64.symm, hb⟩
  have hbb : (S == b) = false := by
    rw [beq_eq_false_iff_ne]
    intro h5
    have h6 : (secOf M).bytes = sealL M := by rw [← hSS, h5]; exact (openL_some ho).1
    exact hbd (sealL_inj h6)
  clear hSS hS64 h48 hbd
  clear hM60 hMb hrM h64 hr hcm ho hlv hev hnv hkd hnn lvs l2 l4 l8 HU h1 h2 h3 hDl hS hVv hm
  go_enter Try.func12, Try.ntmps12
  go_wp2_with (first
    | (go_at_call 29; (with_reducible refine (HO.out _ HB.out).mono ?_); rintro e w1 ⟨rfl, hb1⟩; obtain ⟨⟨p0, p1, p2, p3, p4⟩, f0, f1, f2, f3, f4⟩ := HC.out _ hb1; have b1 := chain7 HB.out hb1; obtain ⟨q0, q1⟩ := HCell.out _ b1)
    | (go_at_call 30; (with_reducible refine (HU1.out _ b1).mono ?_); rintro e w2 ⟨rfl, rfl⟩)
    | (go_at_call 30; (with_reducible refine (HU2.out _ b1).mono ?_); rintro e w2 ⟨rfl, rfl⟩)
    | (go_at_call 30; (with_reducible refine (HU3.out _ b1).mono ?_); rintro e w2 ⟨rfl, rfl⟩))
  have b1a := b1.alloc b1.size (.cells #[.int .i64 0, .int .i64 0, .int .i64 0, .int .i64 0, .slice none 0 0] 24)
  obtain ⟨q0a, -⟩ := HCell.out _ b1a
  go_region
  have bA : Below w.heap.size w (w1.alloc (.cells #[.int .i64 (kd : Int), .int .i64 (ev : Int), .int .i64 (nv : Int), .int .i64 (lv : Int), .slice (some ⟨b0, o + 12, none⟩) nn (c - 12)] 24)).drew := (b1.alloc b1.size _).drew
  have hbA := (hb1.alloc hb1.size (.cells #[.int .i64 (kd : Int), .int .i64 (ev : Int), .int .i64 (nv : Int), .int .i64 (lv : Int), .slice (some ⟨b0, o + 12, none⟩) nn (c - 12)] 24)).drew
  have hbS : Below (w1.alloc (.cells #[.int .i64 (kd : Int), .int .i64 (ev : Int), .int .i64 (nv : Int), .int .i64 (lv : Int), .slice (some ⟨b0, o + 12, none⟩) nn (c - 12)] 24)).heap.size (w1.alloc (.cells #[.int .i64 (kd : Int), .int .i64 (ev : Int), .int .i64 (nv : Int), .int .i64 (lv : Int), .slice (some ⟨b0, o + 12, none⟩) nn (c - 12)] 24)) (w1.alloc (.cells #[.int .i64 (kd : Int), .int .i64 (ev : Int), .int .i64 (nv : Int), .int .i64 (lv : Int), .slice (some ⟨b0, o + 12, none⟩) nn (c - 12)] 24)).drew := (Below.refl _ _).drew
  obtain ⟨t0, t1, t2, t3, t4⟩ := HCS.out _ _ hbS
  have HCS1 := Lib.hid (HCS.out w1)
  clear p0 p1 p2 p3 p4 f0 f1 f2 f3 f4 q0 q1 HCell HU1 HU2 HU3 HO k1 k2 k3 k4 e12 n5 HCS
  generalize hWA : (w1.alloc (.cells #[.int .i64 (kd : Int), .int .i64 (ev : Int), .int .i64 (nv : Int), .int .i64 (lv : Int), .slice (some ⟨b0, o + 12, none⟩) nn (c - 12)] 24)) = WA at bA hbA hbS t0 t1 t2 t3 t4 HCS1 ⊢
  generalize w1.heap.size = g3 at t0 t1 t2 t3 t4 HCS1 ⊢
  clear hWA
  go_wp2_with (first
    | (go_at_call 9; (with_reducible refine (HPut.out _ bA).mono ?_); rintro e w6 ⟨A6, c6, rfl, s6, hb6⟩; have s6 := s6.out; have b6 := chain7 bA hb6; obtain ⟨⟨p0, p1, p2, p3, p4⟩, f0, f1, f2, f3, f4⟩ := HC.out _ (chain7 hbA hb6); have sb := HSb.out _ b6; clear t0 t1 t2 t3 t4; obtain ⟨t0, t1, t2, t3, t4⟩ := HCS1.out _ (chain7 hbS hb6)))
  refine bodyPost_ret (v := .tuple #[.agg #[.int .i64 0, .int .i64 0, .int .i64 0, .int .i64 0, .slice none 0 0], .int .i64 5]) (by simp [results, Try.results12, go_sem, p0, p1, p2, p3, p4]) rfl ⟨none, 0, by rw [HV.out]; rfl, by rw [HV.out]; exact rbc_none _, below_five b6 (Nat.le_refl _) _ _ _ _ _⟩

set_option maxRecDepth 100000 in
set_option maxHeartbeats 4000000 in
theorem rget_in6 (b M : List UInt8) (b0 o c : Nat) (w : World) (h64 : b.length = 64) (hr : RB w w.heap.size (some ⟨b0, o, none⟩) b) (hc : 64 ≤ c) (hcm : c ≤ 9223372036854775807) (ho : openL b = some M) (h1 : unfixL ((M.drop 4).take 4) ≤ 2147483647) (h2 : unfixL ((M.drop 8).take 4) ≤ 2147483647) (h3 : (M.getD 1 0).toNat ≤ 48) (hm : (secOf M).may = true) (hbd : (secOf M).body = M) :
    Calls Try.prog 12 #[.slice (some ⟨b0, o, none⟩) 64 c] w (GivesSc (getS b) w) := by
  have hM60 : M.length = 60 := by have := (openL_some ho).2; omega
  have hMb : M = b.take 60 := by
    have h1 := (openL_some ho).1
    rw [h1]; unfold sealL; rw [List.take_append_of_le_length (by omega), List.take_of_length_le (by omega)]
  have hrM : RB w w.heap.size (some ⟨b0, o, none⟩) M := by rw [hMb]; exact rb_take hr 60 (by omega)
  have HO : Hid (∀ W, Below w.heap.size w W → Calls Try.prog 29 #[.slice (some ⟨b0, o, none⟩) 64 c] W fun e w' => e = .returned (.tuple #[.slice (some ⟨b0, o, none⟩) 60 c, .int .i64 0]) ∧ Below W.heap.size W w') := fun W hb => by
    have := refOpen_view b M (some ⟨b0, o, none⟩) c W (rb_up7 hr hb) (by omega) hcm (by omega) ho
    rw [h64, hM60] at this
    exact this
  obtain ⟨lv, hlv⟩ : ∃ x, x = unfixL ((M.drop 2).take 2) := ⟨_, rfl⟩
  obtain ⟨ev, hev⟩ : ∃ x, x = unfixL ((M.drop 4).take 4) := ⟨_, rfl⟩
  obtain ⟨nv, hnv⟩ : ∃ x, x = unfixL ((M.drop 8).take 4) := ⟨_, rfl⟩
  obtain ⟨kd, hkd⟩ : ∃ x, x = (M.getD 0 0).toNat := ⟨_, rfl⟩
  obtain ⟨nn, hnn⟩ : ∃ x, x = (M.getD 1 0).toNat := ⟨_, rfl⟩
  have lvs : lv ≤ 65535 := by
    have := unfixL_lt ((M.drop 2).take 2)
    have hl : ((M.drop 2).take 2).length = 2 := by rw [List.length_take, List.length_drop]; omega
    rw [hl] at this
    have e : (256 : Nat) ^ 2 = 65536 := rfl
    omega
  have hnn256 : nn < 256 := by rw [hnn]; exact (M.getD 1 0).toNat_lt
  have hkd256 : kd < 256 := by rw [hkd]; exact (M.getD 0 0).toNat_lt
  have HU : Hid (∀ W (k q : Nat) (r : Nat × Nat), Below w.heap.size w W → k + q ≤ 60 → 1 ≤ q → q ≤ 4 → unfixR ((M.drop k).take q) = r → Calls Try.prog 30 #[.slice (some ⟨b0, o + k, none⟩) q (c - k)] W fun e w' => e = .returned (.tuple #[.int .i64 (r.1 : Int), .int .i64 (r.2 : Int)]) ∧ W = w') := fun W k q r hb h1 h2 h3 hq => by
    have hl : ((M.drop k).take q).length = q := by rw [List.length_take, List.length_drop]; omega
    have := refUnfix_any ((M.drop k).take q) (some ⟨b0, o + k, none⟩) (c - k) _ W (sub_rb (hrM.below hb) k q (by omega) (show M.length < c by omega)) (by omega)
    rw [hl, hq] at this
    exact this
  have l2 : ((M.drop 2).take 2).length = 2 := by rw [List.length_take, List.length_drop]; omega
  have l4 : ((M.drop 4).take 4).length = 4 := by rw [List.length_take, List.length_drop]; omega
  have l8 : ((M.drop 8).take 4).length = 4 := by rw [List.length_take, List.length_drop]; omega
  have HU1 : Hid (∀ W, Below w.heap.size w W → Calls Try.prog 30 #[.slice (some ⟨b0, o + 2, none⟩) 2 (c - 2)] W fun e w' => e = .returned (.tuple #[.int .i64 (lv : Int), .int .i64 0]) ∧ W = w') := fun W hb => by
    rw [hlv]; exact HU.out W 2 2 (_, 0) hb (by omega) (by omega) (by omega) (unfix_ok l2 (by omega) (by omega) (by omega))
  have HCell : Hid (∀ W, Below w.heap.size w W → W.cell? ⟨b0, o, none⟩ = some (.int .u8 (kd : Int)) ∧ W.cell? ⟨b0, o + 1, none⟩ = some (.int .u8 (nn : Int))) := fun W hb => by
    obtain ⟨b', o', e, _, hcc⟩ := (hrM.below hb).at_ (by omega)
    simp only [Option.some.injEq, Addr.mk.injEq, and_true] at e
    obtain ⟨rfl, rfl⟩ := e
    have c0 := hcc 0 (by omega)
    have c1 := hcc 1 (by omega)
    refine ⟨?_, ?_⟩
    · rw [Nat.add_zero] at c0
      rw [c0, hkd]; simp [List.getD, List.getElem?_eq_getElem (show 0 < M.length by omega)]
    · rw [c1, hnn]; simp [List.getD, List.getElem?_eq_getElem (show 1 < M.length by omega)]
  have HB : Hid (Below w.heap.size w (w.alloc (.cells #[.int .i64 0, .int .i64 0, .int .i64 0, .int .i64 0, .slice none 0 0] 24))) := (Below.refl _ _).alloc (Nat.le_refl _) _
  have HC := Lib.hid (fun W hb => res_at w W hb)
  have nb := fun w' => Try.secBuild0 w'
  have a24 := fun w' => Try.aggSec w'
  have s24 := fun w' => Try.sizeSec w'
  have k1 := fun W => sl_both b0 o 60 c 2 4 2 4 rfl rfl (by omega) (by omega) (by omega) W
  have k2 := fun W => sl_both b0 o 60 c 4 8 4 8 rfl rfl (by omega) (by omega) (by omega) W
  have k3 := fun W => sl_both b0 o 60 c 8 12 8 12 rfl rfl (by omega) (by omega) (by omega) W
  simp only [Nat.reduceSub] at k1 k2 k3
  have HU2 : Hid (∀ W, Below w.heap.size w W → Calls Try.prog 30 #[.slice (some ⟨b0, o + 4, none⟩) 4 (c - 4)] W fun e w' => e = .returned (.tuple #[.int .i64 (ev : Int), .int .i64 0]) ∧ W = w') := fun W hb => by
    rw [hev]; exact HU.out W 4 4 (_, 0) hb (by omega) (by omega) (by omega) (unfix_ok l4 (by omega) (by omega) (by omega))
  have HU3 : Hid (∀ W, Below w.heap.size w W → Calls Try.prog 30 #[.slice (some ⟨b0, o + 8, none⟩) 4 (c - 8)] W fun e w' => e = .returned (.tuple #[.int .i64 (nv : Int), .int .i64 0]) ∧ W = w') := fun W hb => by
    rw [hnv]; exact HU.out W 8 4 (_, 0) hb (by omega) (by omega) (by omega) (unfix_ok l8 (by omega) (by omega) (by omega))
  have d0 : decide ((48 : Int) < (nn : Int)) = false := decide_eq_false (by omega)
  have d1 : decide ((nn : Int) > 48) = false := decide_eq_false (by omega)
  have d2 : decide (48 < nn) = false := decide_eq_false (by omega)
  have e12 : IntKind.i64.wrap ((12 : Int) + (nn : Int)) = (12 : Int) + (nn : Int) := IntWalk.i64_in _ (by omega)
  have k4 := fun W => sl_both b0 o 60 c 12 (12 + nn) 12 ((12 : Int) + (nn : Int)) rfl (by omega) (by omega) (by omega) (by omega) W
  rw [show 12 + nn - 12 = nn by omega] at k4
  have n5 := fun w' => Try.secBuild5 (kd : Int) (ev : Int) (nv : Int) (lv : Int) (some ⟨b0, o + 12, none⟩) nn (c - 12) w'
  have hS : secOf M = ⟨(kd : Int), (ev : Int), (nv : Int), (lv : Int), (M.drop 12).take nn⟩ := by unfold secOf; rw [hkd, hev, hnv, hlv, hnn]
  have hDl : ((M.drop 12).take nn).length = nn := by rw [List.length_take, List.length_drop]; omega
  have HDr : Hid (∀ W, Below w.heap.size w W → RBc W (some ⟨b0, o + 12, none⟩) (secOf M).data (c - 12)) := fun W hb => by
    rw [hS]; exact ⟨(sub_rb (hrM.below hb) 12 nn (by omega) (show M.length < c by omega)).more hb.size, by show ((M.drop 12).take nn).length ≤ c - 12; rw [hDl]; omega, by omega⟩
  have hVv : secV (secOf M) (some ⟨b0, o + 12, none⟩) (c - 12) = .agg #[.int .i64 (kd : Int), .int .i64 (ev : Int), .int .i64 (nv : Int), .int .i64 (lv : Int), .slice (some ⟨b0, o + 12, none⟩) nn (c - 12)] := by rw [hS]; unfold secV; simp only [hDl]
  have HSb : Hid (∀ W, Below w.heap.size w W → (convert 22 9 (.slice (some ⟨b0, o, none⟩) 64 c)).run Try.prog W = .ok (.string ⟨b.toArray⟩) W) := fun W hb => aw_str (rb_up7 hr hb) 64 c h64.symm
  have HCS : Hid (∀ W W' : World, Below (W.alloc (.cells #[.int .i64 (kd : Int), .int .i64 (ev : Int), .int .i64 (nv : Int), .int .i64 (lv : Int), .slice (some ⟨b0, o + 12, none⟩) nn (c - 12)] 24)).heap.size (W.alloc (.cells #[.int .i64 (kd : Int), .int .i64 (ev : Int), .int .i64 (nv : Int), .int .i64 (lv : Int), .slice (some ⟨b0, o + 12, none⟩) nn (c - 12)] 24)) W' → W'.cell? ⟨W.heap.size, 0, none⟩ = some (.int .i64 (kd : Int)) ∧ W'.cell? ⟨W.heap.size, 1, none⟩ = some (.int .i64 (ev : Int)) ∧ W'.cell? ⟨W.heap.size, 2, none⟩ = some (.int .i64 (nv : Int)) ∧ W'.cell? ⟨W.heap.size, 3, none⟩ = some (.int .i64 (lv : Int)) ∧ W'.cell? ⟨W.heap.size, 4, none⟩ = some (.slice (some ⟨b0, o + 12, none⟩) nn (c - 12))) := fun W W' hb => by
    have h0 : Blk W' W.heap.size 24 #[.int .i64 (kd : Int), .int .i64 (ev : Int), .int .i64 (nv : Int), .int .i64 (lv : Int), .slice (some ⟨b0, o + 12, none⟩) nn (c - 12)] := Blk.below (Blk.new W _ _) hb (by simp)
    exact ⟨by rw [h0.cell]; rfl, by rw [h0.cell]; rfl, by rw [h0.cell]; rfl, by rw [h0.cell]; rfl, by rw [h0.cell]; rfl⟩
  have HV : Hid (getS b = (secOf M, 0)) := getS_ok h64 ho ((body_secOf M (by omega)).1 ⟨hm, hbd⟩)
  have h48 : (secOf M).data.length ≤ 48 := ((Sd.may_iff _).1 hm).2.2.2.2.2.2.2.2
  obtain ⟨S, hSS⟩ : ∃ S, S = (secOf M).bytes := ⟨_, rfl⟩
  have hS64 : S.length = 64 := by rw [hSS]; exact Sd.bytes_length _ h48
  have HPut : Hid (∀ W, Below w.heap.size w W → Calls Try.prog 9 #[.agg #[.int .i64 (kd : Int), .int .i64 (ev : Int), .int .i64 (nv : Int), .int .i64 (lv : Int), .slice (some ⟨b0, o + 12, none⟩) nn (c - 12)]] W fun e w' => ∃ A c, e = .returned (.tuple #[.slice A 64 c, .int .i64 0]) ∧ Hid ((convert 22 9 (.slice A 64 c)).run Try.prog w' = .ok (.string ⟨S.toArray⟩) w') ∧ Below W.heap.size W w') := fun W hb => by
    rw [← hVv]
    refine (rput_yes _ _ _ W hm (HDr.out W hb).1).mono fun e w' hh => ?_
    obtain ⟨A, c, he, ho, hb⟩ := hh
    rw [← hSS] at he ho
    rw [hS64] at he
    exact ⟨A, c, he, aw_str (own_rb ho) 64 c hS64.symm, hb⟩
  have hbb : (S == b) = true := by
    rw [beq_iff_eq, hSS]
    show sealL (secOf M).body = b
    rw [hbd]; exact (openL_some ho).1.symm
  have HVv := Lib.hid hVv
  clear hSS hS64 h48 hbd
  clear hM60 hMb hrM h64 hr hcm ho hlv hev hnv hkd hnn lvs l2 l4 l8 HU h1 h2 h3 hDl hS hVv hm
  go_enter Try.func12, Try.ntmps12
  go_wp2_with (first
    | (go_at_call 29; (with_reducible refine (HO.out _ HB.out).mono ?_); rintro e w1 ⟨rfl, hb1⟩; obtain ⟨⟨p0, p1, p2, p3, p4⟩, f0, f1, f2, f3, f4⟩ := HC.out _ hb1; have b1 := chain7 HB.out hb1; obtain ⟨q0, q1⟩ := HCell.out _ b1)
    | (go_at_call 30; (with_reducible refine (HU1.out _ b1).mono ?_); rintro e w2 ⟨rfl, rfl⟩)
    | (go_at_call 30; (with_reducible refine (HU2.out _ b1).mono ?_); rintro e w2 ⟨rfl, rfl⟩)
    | (go_at_call 30; (with_reducible refine (HU3.out _ b1).mono ?_); rintro e w2 ⟨rfl, rfl⟩))
  have b1a := b1.alloc b1.size (.cells #[.int .i64 0, .int .i64 0, .int .i64 0, .int .i64 0, .slice none 0 0] 24)
  obtain ⟨q0a, -⟩ := HCell.out _ b1a
  go_region
  have bA : Below w.heap.size w (w1.alloc (.cells #[.int .i64 (kd : Int), .int .i64 (ev : Int), .int .i64 (nv : Int), .int .i64 (lv : Int), .slice (some ⟨b0, o + 12, none⟩) nn (c - 12)] 24)).drew := (b1.alloc b1.size _).drew
  have hbA := (hb1.alloc hb1.size (.cells #[.int .i64 (kd : Int), .int .i64 (ev : Int), .int .i64 (nv : Int), .int .i64 (lv : Int), .slice (some ⟨b0, o + 12, none⟩) nn (c - 12)] 24)).drew
  have hbS : Below (w1.alloc (.cells #[.int .i64 (kd : Int), .int .i64 (ev : Int), .int .i64 (nv : Int), .int .i64 (lv : Int), .slice (some ⟨b0, o + 12, none⟩) nn (c - 12)] 24)).heap.size (w1.alloc (.cells #[.int .i64 (kd : Int), .int .i64 (ev : Int), .int .i64 (nv : Int), .int .i64 (lv : Int), .slice (some ⟨b0, o + 12, none⟩) nn (c - 12)] 24)) (w1.alloc (.cells #[.int .i64 (kd : Int), .int .i64 (ev : Int), .int .i64 (nv : Int), .int .i64 (lv : Int), .slice (some ⟨b0, o + 12, none⟩) nn (c - 12)] 24)).drew := (Below.refl _ _).drew
  obtain ⟨t0, t1, t2, t3, t4⟩ := HCS.out _ _ hbS
  have HCS1 := Lib.hid (HCS.out w1)
  clear p0 p1 p2 p3 p4 f0 f1 f2 f3 f4 q0 q1 HCell HU1 HU2 HU3 HO k1 k2 k3 k4 e12 n5 HCS
  generalize hWA : (w1.alloc (.cells #[.int .i64 (kd : Int), .int .i64 (ev : Int), .int .i64 (nv : Int), .int .i64 (lv : Int), .slice (some ⟨b0, o + 12, none⟩) nn (c - 12)] 24)) = WA at bA hbA hbS t0 t1 t2 t3 t4 HCS1 ⊢
  generalize w1.heap.size = g3 at t0 t1 t2 t3 t4 HCS1 ⊢
  clear hWA
  go_wp2_with (first
    | (go_at_call 9; (with_reducible refine (HPut.out _ bA).mono ?_); rintro e w6 ⟨A6, c6, rfl, s6, hb6⟩; have s6 := s6.out; have b6 := chain7 bA hb6; obtain ⟨⟨p0, p1, p2, p3, p4⟩, f0, f1, f2, f3, f4⟩ := HC.out _ (chain7 hbA hb6); have sb := HSb.out _ b6; clear t0 t1 t2 t3 t4; obtain ⟨t0, t1, t2, t3, t4⟩ := HCS1.out _ (chain7 hbS hb6)))
  refine bodyPost_ret (v := .tuple #[.agg #[.int .i64 (kd : Int), .int .i64 (ev : Int), .int .i64 (nv : Int), .int .i64 (lv : Int), .slice (some ⟨b0, o + 12, none⟩) nn (c - 12)], .int .i64 0]) (by simp [results, Try.results12, go_sem, p0, p1, p2, p3, p4]) rfl ⟨some ⟨b0, o + 12, none⟩, c - 12, by rw [HV.out, HVv.out], by rw [HV.out]; exact HDr.out _ (below_five b6 (Nat.le_refl _) _ _ _ _ _), below_five b6 (Nat.le_refl _) _ _ _ _ _⟩
/-- The reference's Get. -/
theorem rget_anyc (b : List UInt8) (A : Option Addr) (c : Nat) (w : World) (hr : RB w w.heap.size A b) (hc : b.length ≤ c) (hcm : c ≤ 9223372036854775807) :
    Calls Try.prog 12 #[.slice A b.length c] w (GivesSc (getS b) w) := by
  by_cases h64 : b.length = 64
  · obtain ⟨b0, o, rfl, _, _⟩ := hr.at_ (by omega)
    rw [h64]
    cases ho : openL b with
    | none => exact rget_sum b _ c w h64 hr (by omega) hcm ho
    | some M =>
      by_cases h1 : unfixL ((M.drop 4).take 4) ≤ 2147483647
      · by_cases h2 : unfixL ((M.drop 8).take 4) ≤ 2147483647
        · by_cases h3 : (M.getD 1 0).toNat ≤ 48
          · cases hm : (secOf M).may with
            | false => exact rget_in4 b M b0 o c w h64 hr (by omega) hcm ho h1 h2 h3 hm
            | true =>
              by_cases hbd : (secOf M).body = M
              · exact rget_in6 b M b0 o c w h64 hr (by omega) hcm ho h1 h2 h3 hm hbd
              · exact rget_in5 b M b0 o c w h64 hr (by omega) hcm ho h1 h2 h3 hm hbd
          · exact rget_in3 b M b0 o c w h64 hr (by omega) hcm ho h1 h2 h3
        · exact rget_in2 b M b0 o c w h64 hr (by omega) hcm ho h1 h2
      · exact rget_in1 b M b0 o c w h64 hr (by omega) hcm ho h1
  · exact rget_size b _ A c w rfl h64
theorem rget_any (b : List UInt8) (A : Option Addr) (c : Nat) (w : World) (hr : RB w w.heap.size A b) (hc : b.length ≤ c) (hcm : c ≤ 9223372036854775807) :
    Calls Try.prog 12 #[.slice A b.length c] w (GivesS (getS b) w) := (rget_anyc b A c w hr hc hcm).mono fun _ _ h => h.weak
end Go.Proofs.Ytepeoggacmaenaa
