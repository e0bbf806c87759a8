/- Lemmas under the proofs of this place: CellRGet, CellPCutM. No statement is proved here. -/
import Derived.Test.YtpedgkghfehkjaaBu16
import Derived.Test.YtpedgkghfehkjaaBu09
import Derived.Test.YtpedgkghfehkjaaBu18
import Derived.Test.YtpedgkghfehkjaaBu17
import Derived.Test.YtpedgkghfehkjaaBu12
import Derived.Test.YtpedgkghfehkjaaBu11
section
set_option linter.unusedVariables false
namespace Go.Proofs.Ytpedgkghfehkjaa
open Go.RowKit
set_option maxRecDepth 100000 in
set_option maxHeartbeats 4000000 in
theorem rcget_size (b : List UInt8) (n : Nat) (A : Option Addr) (c : Nat) (w : World) (hn : n = b.length) (h : n ≠ 256) :
    Calls Try.prog 11 #[.slice A n c] w (GivesCc (getC b) w) := by
  have HV : Hid (getC b = (.zero, 11)) := getC_size (by omega)
  have nb := fun w' => Try.cellBuild0 w'
  have a24 := fun w' => Try.aggCell w'
  have s24 := fun w' => Try.sizeCell w'
  have d0 : (((n : Int) != 256)) = true := by simp; omega
  have d1 : ((n : Int) == 256) = false := by simp; omega
  clear hn h
  go_enter Try.func11, Try.ntmps11
  go_wp2
  refine bodyPost_ret (v := .tuple #[.agg #[.int .i64 0, .int .i64 0, .int .i64 0, .slice none 0 0], .int .i64 11]) (by simp [results, Try.results11, go_sem]) rfl ⟨none, 0, by rw [HV.out]; rfl, by rw [HV.out]; exact rbc_none _, (Below.refl _ _).alloc (Nat.le_refl _) _⟩
set_option maxRecDepth 100000 in
set_option maxHeartbeats 4000000 in
theorem rcget_sum (b : List UInt8) (A : Option Addr) (c : Nat) (w : World) (h64 : b.length = 256) (hr : RB w w.heap.size A b) (hc : 256 ≤ c) (hcm : c ≤ 9223372036854775807) (ho : openL b = none) :
    Calls Try.prog 11 #[.slice A 256 c] w (GivesCc (getC b) w) := by
  have HV : Hid (getC b = (.zero, 12)) := getC_sum h64 ho
  have HO : Hid (∀ W, Below w.heap.size w W → Calls Try.prog 28 #[.slice A 256 c] W fun e w' => e = .returned (.tuple #[.slice none 0 0, .int .i64 12]) ∧ Below W.heap.size W w') := fun W hb => by
    have := refOpen_any b A c _ W (rb_up7 hr hb) (by omega) hcm (by omega)
    rw [ho, h64] at this
    exact this
  have HB : Hid (Below w.heap.size w (w.alloc (.cells #[.int .i64 0, .int .i64 0, .int .i64 0, .slice none 0 0] 24))) := (Below.refl _ _).alloc (Nat.le_refl _) _
  have HC := Lib.hid (fun W hb => res_c w W hb)
  have nb := fun w' => Try.cellBuild0 w'
  have a24 := fun w' => Try.aggCell w'
  have s24 := fun w' => Try.sizeCell w'
  clear h64 hr hc hcm ho
  go_enter Try.func11, Try.ntmps11
  go_wp2_with (go_at_call 28; (with_reducible refine (HO.out _ HB.out).mono ?_); rintro e w1 ⟨rfl, hb1⟩; obtain ⟨⟨p0, p1, p2, p3⟩, f0, f1, f2, f3⟩ := HC.out _ hb1)
  refine bodyPost_ret (v := .tuple #[.agg #[.int .i64 0, .int .i64 0, .int .i64 0, .slice none 0 0], .int .i64 12]) (by simp [results, Try.results11, go_sem, p0, p1, p2, p3]) rfl ⟨none, 0, by rw [HV.out]; rfl, by rw [HV.out]; exact rbc_none _, below_four (chain7 HB.out hb1) (Nat.le_refl _) _ _ _ _⟩
set_option maxRecDepth 100000 in
set_option maxHeartbeats 8000000 in
theorem rcget_in (b M : List UInt8) (b0 o c : Nat) (w : World) (h64 : b.length = 256) (hr : RB w w.heap.size (some ⟨b0, o, none⟩) b) (hc : 256 ≤ c) (hcm : c ≤ 9223372036854775807) (ho : openL b = some M) :
    Calls Try.prog 11 #[.slice (some ⟨b0, o, none⟩) 256 c] w (GivesCc (getC b) w) := by
  have hM : M.length = 252 := by have := (openL_some ho).2; omega
  have hMb : M = b.take 252 := by
    have h1 := (openL_some ho).1
    rw [h1]; unfold sealL; rw [List.take_append_of_le_length (by omega), List.take_of_length_le (by omega)]
  have hrM : RB w w.heap.size (some ⟨b0, o, none⟩) M := by rw [hMb]; exact rb_take hr 252 (by omega)
  have HO : Hid (∀ W, Below w.heap.size w W → Calls Try.prog 28 #[.slice (some ⟨b0, o, none⟩) 256 c] W fun e w' => e = .returned (.tuple #[.slice (some ⟨b0, o, none⟩) 252 c, .int .i64 0]) ∧ Below W.heap.size W w') := fun W hb => by
    have := refOpen_view b M (some ⟨b0, o, none⟩) c W (rb_up7 hr hb) (by omega) hcm (by omega) ho
    rw [h64, hM] at this
    exact this
  obtain ⟨ov, hov⟩ : ∃ x, x = unfixL (M.take 4) := ⟨_, rfl⟩
  obtain ⟨nv, hnv⟩ : ∃ x, x = unfixL ((M.drop 4).take 2) := ⟨_, rfl⟩
  obtain ⟨xv, hxv⟩ : ∃ x, x = unfixL ((M.drop 6).take 2) := ⟨_, rfl⟩
  obtain ⟨mv, hmv⟩ : ∃ x, x = unfixL ((M.drop 8).take 2) := ⟨_, rfl⟩
  have two : ∀ k, k ≤ 250 → ((M.drop k).take 2).length = 2 ∧ unfixL ((M.drop k).take 2) ≤ 65535 := fun k hk => by
    have := unfixL_lt ((M.drop k).take 2)
    have hl : ((M.drop k).take 2).length = 2 := by rw [List.length_take, List.length_drop]; omega
    rw [hl] at this
    have e : (256 : Nat) ^ 2 = 65536 := rfl
    exact ⟨hl, by omega⟩
  have nvs : nv ≤ 65535 := by rw [hnv]; exact (two 4 (by omega)).2
  have xvs : xv ≤ 65535 := by rw [hxv]; exact (two 6 (by omega)).2
  have mvs : mv ≤ 65535 := by rw [hmv]; exact (two 8 (by omega)).2
  have HU2 : Hid (∀ W k z, k ≤ 250 → unfixL ((M.drop k).take 2) = z → Below w.heap.size w W → Calls Try.prog 29 #[.slice (some ⟨b0, o + k, none⟩) 2 (c - k)] W fun e w' => e = .returned (.tuple #[.int .i64 (z : Int), .int .i64 0]) ∧ W = w') := fun W k z hk hz hb => by
    obtain ⟨hl, hs⟩ := two k hk
    have := refUnfix_any ((M.drop k).take 2) (some ⟨b0, o + k, none⟩) (c - k) _ W (sub_rb (hrM.below hb) k 2 (by omega) (show M.length < c by omega)) (by omega)
    rw [hl, unfix_ok hl (by omega) (by omega) (by omega), hz] at this
    exact this
  have HU4 : Hid (∀ W r, unfixR (M.take 4) = r → Below w.heap.size w W → Calls Try.prog 29 #[.slice (some ⟨b0, o, none⟩) 4 c] W fun e w' => e = .returned (.tuple #[.int .i64 (r.1 : Int), .int .i64 (r.2 : Int)]) ∧ W = w') := fun W r hq hb => by
    have hl : (M.take 4).length = 4 := by rw [List.length_take]; omega
    have := refUnfix_any (M.take 4) (some ⟨b0, o, none⟩) c _ W (rb_take (hrM.below hb) 4 (by omega)) (by omega)
    rw [hl, hq] at this
    exact this
  have l4 : (M.take 4).length = 4 := by rw [List.length_take]; omega
  have HU5 : Hid (∀ W, Below w.heap.size w W → Calls Try.prog 29 #[.slice (some ⟨b0, o + 4, none⟩) 2 (c - 4)] W fun e w' => e = .returned (.tuple #[.int .i64 (nv : Int), .int .i64 0]) ∧ W = w') := fun W hb => HU2.out W 4 nv (by omega) hnv.symm hb
  have HU6 : Hid (∀ W, Below w.heap.size w W → Calls Try.prog 29 #[.slice (some ⟨b0, o + 6, none⟩) 2 (c - 6)] W fun e w' => e = .returned (.tuple #[.int .i64 (xv : Int), .int .i64 0]) ∧ W = w') := fun W hb => HU2.out W 6 xv (by omega) hxv.symm hb
  have HU8 : Hid (∀ W, Below w.heap.size w W → Calls Try.prog 29 #[.slice (some ⟨b0, o + 8, none⟩) 2 (c - 8)] W fun e w' => e = .returned (.tuple #[.int .i64 (mv : Int), .int .i64 0]) ∧ W = w') := fun W hb => HU2.out W 8 mv (by omega) hmv.symm hb
  have HB : Hid (Below w.heap.size w (w.alloc (.cells #[.int .i64 0, .int .i64 0, .int .i64 0, .slice none 0 0] 24))) := (Below.refl _ _).alloc (Nat.le_refl _) _
  have HC := Lib.hid (fun W hb => res_c w W hb)
  have nb := fun w' => Try.cellBuild0 w'
  have a24 := fun w' => Try.aggCell w'
  have s24 := fun w' => Try.sizeCell w'
  have k0 := fun W => sl_to b0 o 252 c 4 4 rfl (by omega) (by omega) W
  have k1 := fun W => sl_both b0 o 252 c 4 6 4 6 rfl rfl (by omega) (by omega) (by omega) W
  have k2 := fun W => sl_both b0 o 252 c 6 8 6 8 rfl rfl (by omega) (by omega) (by omega) W
  have k3 := fun W => sl_both b0 o 252 c 8 10 8 10 rfl rfl (by omega) (by omega) (by omega) W
  simp only [Nat.reduceSub] at k1 k2 k3
  have HF := Lib.hid (fun hf => getC_form h64 ho hf)
  have HFm := Lib.hid (show ∀ h : FormedC M, 1 ≤ ov ∧ ov ≤ 2147483647 ∧ 1 ≤ mv ∧ mv ≤ 242 from fun h => by rw [hov, hmv]; exact ⟨h.1, h.2, h.3, h.4⟩)
  by_cases h1 : ov ≤ 2147483647
  · have HU1 : Hid (∀ W, Below w.heap.size w W → Calls Try.prog 29 #[.slice (some ⟨b0, o, none⟩) 4 c] W fun e w' => e = .returned (.tuple #[.int .i64 (ov : Int), .int .i64 0]) ∧ W = w') := fun W hb => by
      rw [hov]; exact HU4.out W (_, 0) (unfix_ok l4 (by omega) (by omega) (by omega)) hb
    by_cases h3 : mv ≤ 242
    · have HCe : Hid (cellOf M = ⟨(ov : Int), (nv : Int), (xv : Int), (M.drop 10).take mv⟩) := by rw [hov, hnv, hxv, hmv]; rfl
      obtain ⟨D, hD⟩ : ∃ D, D = (M.drop 10).take mv := ⟨_, rfl⟩
      have lD : D.length = mv := by rw [hD, List.length_take, List.length_drop]; omega
      rw [← hD] at HCe
      have HrD : Hid (∀ W, Below w.heap.size w W → RB W W.heap.size (some ⟨b0, o + 10, none⟩) D) := fun W hb => by
        rw [hD]
        exact sub_rb (rb_up7 hrM hb) 10 mv (by omega) (show M.length < c by omega)
      have e12 : IntKind.i64.wrap (10 + (mv : Int)) = 10 + (mv : Int) := IntWalk.i64_in _ (by omega)
      have k4 : ∀ W, (Instr.sliceAt 22 (.slice (some ⟨b0, o, none⟩) 252 c) (some (.int .i64 10)) (some (.int .i64 (10 + (mv : Int)))) none).run Try.prog W = .ok (.slice (some ⟨b0, o + 10, none⟩) mv (c - 10)) W := fun W => by
        have := sl_both b0 o 252 c 10 (10 + mv) 10 (10 + (mv : Int)) rfl (by omega) (by omega) (by omega) (by omega) W
        rwa [show 10 + mv - 10 = mv by omega] at this
      have n4 := fun W => Try.cellBuild4 (ov : Int) (nv : Int) (xv : Int) (some ⟨b0, o + 10, none⟩) mv (c - 10) W
      have d0 : decide ((242 : Int) < (mv : Int)) = false := decide_eq_false (by omega)
      have d1 : decide ((mv : Int) > 242) = false := decide_eq_false (by omega)
      have d2 : decide (242 < mv) = false := decide_eq_false (by omega)
      have sb : ∀ W, Below w.heap.size w W → (convert 22 9 (.slice (some ⟨b0, o, none⟩) 256 c)).run Try.prog W = .ok (.string ⟨b.toArray⟩) W := fun W hb => aw_str (rb_up7 hr hb) 256 c h64.symm
      have HSb := Lib.hid sb
      have HCS := Lib.hid (fun w W hb => cell_at w W (ov : Int) (nv : Int) (xv : Int) (some ⟨b0, o + 10, none⟩) mv (c - 10) hb)
      have hbM : b = sealL M := (openL_some ho).1
      have hcap : mv ≤ c - 10 ∧ c - 10 ≤ 9223372036854775807 := by omega
      cases hmay : (cellOf M).may with
      | false =>
        have HV : Hid (getC b = (.zero, 5)) := HF.out (fun hF => by have := ((body_cellOf M hM).2 hF).1; rw [hmay] at this; cases this)
        have HPut : Hid (∀ W, Calls Try.prog 8 #[.agg #[.int .i64 (ov : Int), .int .i64 (nv : Int), .int .i64 (xv : Int), .slice (some ⟨b0, o + 10, none⟩) mv (c - 10)]] W fun e w' => e = .returned (.tuple #[.slice none 0 0, .int .i64 1]) ∧ Below W.heap.size W w') := fun W => by
          have := rcput_no (cellOf M) (some ⟨b0, o + 10, none⟩) (c - 10) W hmay
          rw [HCe.out] at this
          unfold ceV at this
          simp only [lD] at this
          exact this
        clear hM hMb hrM h64 hr hcm ho hov hnv hxv hmv nvs xvs mvs l4 two HU2 HU4 h1 h3 HF HFm hmay HCe lD hD sb hbM hcap
        go_enter Try.func11, Try.ntmps11
        go_wp2_with (first
          | (go_at_call 28; (with_reducible refine (HO.out _ HB.out).mono ?_); rintro e w1 ⟨rfl, hb1⟩; obtain ⟨⟨p0, p1, p2, p3⟩, f0, f1, f2, f3⟩ := HC.out _ hb1; have b1 := chain7 HB.out hb1)
          | (go_at_call 29; (with_reducible refine (HU1.out _ b1).mono ?_); rintro e w2 ⟨rfl, rfl⟩)
          | (go_at_call 29; (with_reducible refine (HU5.out _ b1).mono ?_); rintro e w2 ⟨rfl, rfl⟩)
          | (go_at_call 29; (with_reducible refine (HU6.out _ b1).mono ?_); rintro e w2 ⟨rfl, rfl⟩)
          | (go_at_call 29; (with_reducible refine (HU8.out _ b1).mono ?_); rintro e w2 ⟨rfl, rfl⟩)
          | (go_at_call 8; (with_reducible refine (HPut.out _).mono ?_); rintro e w6 ⟨rfl, hb6⟩; have kA := hb1.alloc hb1.size (.cells #[.int .i64 (ov : Int), .int .i64 (nv : Int), .int .i64 (xv : Int), .slice (some ⟨b0, o + 10, none⟩) mv (c - 10)] 24); have k6 := chain7 (by first | exact kA | exact kA.drew) hb6; have b6 := chain7 HB.out k6; clear p0 p1 p2 p3 f0 f1 f2 f3; obtain ⟨⟨p0, p1, p2, p3⟩, f0, f1, f2, f3⟩ := HC.out _ k6))
        refine bodyPost_ret (v := .tuple #[.agg #[.int .i64 0, .int .i64 0, .int .i64 0, .slice none 0 0], .int .i64 5]) (by simp [results, Try.results11, go_sem, p0, p1, p2, p3]) rfl ⟨none, 0, by rw [HV.out]; rfl, by rw [HV.out]; exact rbc_none _, below_four b6 (Nat.le_refl _) _ _ _ _⟩
      | true =>
        obtain ⟨S, hS⟩ : ∃ S, S = (cellOf M).bytes := ⟨_, rfl⟩
        have hS256 : S.length = 256 := by rw [hS, HCe.out]; exact Ce.bytes_length _ (by show D.length ≤ 242; omega)
        have HPut : Hid (∀ W, Below w.heap.size w W → Calls Try.prog 8 #[.agg #[.int .i64 (ov : Int), .int .i64 (nv : Int), .int .i64 (xv : Int), .slice (some ⟨b0, o + 10, none⟩) mv (c - 10)]] W fun e w' => ∃ A c, e = .returned (.tuple #[.slice A 256 c, .int .i64 0]) ∧ (convert 22 9 (.slice A 256 c)).run Try.prog w' = .ok (.string ⟨S.toArray⟩) w' ∧ Below W.heap.size W w') := fun W hb => by
          have := rcput_yes (cellOf M) (some ⟨b0, o + 10, none⟩) (c - 10) W hmay (by rw [HCe.out]; exact HrD.out W hb)
          rw [← hS] at this
          rw [HCe.out] at this
          unfold ceV at this
          simp only [lD] at this
          refine this.mono fun e w' hh => ?_
          obtain ⟨A, c, he, ho, hb⟩ := hh
          rw [hS256] at he
          exact ⟨A, c, he, aw_str (own_rb ho) 256 c hS256.symm, hb⟩
        by_cases hbd : S = b
        · have HV : Hid (getC b = (⟨(ov : Int), (nv : Int), (xv : Int), D⟩, 0)) := by
            show _ = _
            rw [← HCe.out]
            refine getC_ok h64 ho ((body_cellOf M hM).1 ⟨hmay, ?_⟩)
            have h5 : sealL (cellOf M).body = sealL M := by rw [← hbM, ← hbd, hS]; rfl
            exact sealL_inj h5
          subst hbd
          have HlD := Lib.hid lD
          have Hcap := Lib.hid hcap
          clear hM hMb hrM h64 hr hcm ho hov hnv hxv hmv nvs xvs mvs l4 two HU2 HU4 h1 h3 HF HFm hmay HCe lD hD sb hbM hcap hS hS256
          go_enter Try.func11, Try.ntmps11
          go_wp2_with (first
            | (go_at_call 28; (with_reducible refine (HO.out _ HB.out).mono ?_); rintro e w1 ⟨rfl, hb1⟩; obtain ⟨⟨p0, p1, p2, p3⟩, f0, f1, f2, f3⟩ := HC.out _ hb1; have b1 := chain7 HB.out hb1)
            | (go_at_call 29; (with_reducible refine (HU1.out _ b1).mono ?_); rintro e w2 ⟨rfl, rfl⟩)
            | (go_at_call 29; (with_reducible refine (HU5.out _ b1).mono ?_); rintro e w2 ⟨rfl, rfl⟩)
            | (go_at_call 29; (with_reducible refine (HU6.out _ b1).mono ?_); rintro e w2 ⟨rfl, rfl⟩)
            | (go_at_call 29; (with_reducible refine (HU8.out _ b1).mono ?_); rintro e w2 ⟨rfl, rfl⟩)
            | (go_at_call 8; (with_reducible refine (HPut.out _ (by first | exact b1.alloc b1.size _ | exact (b1.alloc b1.size _).drew)).mono ?_); rintro e w6 ⟨A6, c6, rfl, s6, hb6⟩; have kA := hb1.alloc hb1.size (.cells #[.int .i64 (ov : Int), .int .i64 (nv : Int), .int .i64 (xv : Int), .slice (some ⟨b0, o + 10, none⟩) mv (c - 10)] 24); have k6 := chain7 (by first | exact kA | exact kA.drew) hb6; have b6 := chain7 HB.out k6; clear p0 p1 p2 p3 f0 f1 f2 f3; obtain ⟨⟨p0, p1, p2, p3⟩, f0, f1, f2, f3⟩ := HC.out _ k6; have s7 := HSb.out _ b6; obtain ⟨t0, t1, t2, t3⟩ := HCS.out w1 _ (chain7 (by first | exact Below.refl _ _ | exact (Below.refl _ _).drew) hb6)))
          have bF := below_four (g := w.heap.size) b6 (Nat.le_refl _) (.int .i64 (ov : Int)) (.int .i64 (nv : Int)) (.int .i64 (xv : Int)) (.slice (some ⟨b0, o + 10, none⟩) mv (c - 10))
          refine bodyPost_ret (v := .tuple #[.agg #[.int .i64 (ov : Int), .int .i64 (nv : Int), .int .i64 (xv : Int), .slice (some ⟨b0, o + 10, none⟩) mv (c - 10)], .int .i64 0]) (by simp [results, Try.results11, go_sem, p0, p1, p2, p3]) rfl ⟨some ⟨b0, o + 10, none⟩, c - 10, by rw [HV.out]; unfold ceV; rw [HlD.out], by rw [HV.out]; exact ⟨HrD.out _ bF, by rw [HlD.out]; exact Hcap.out.1, Hcap.out.2⟩, bF⟩
        · have HV : Hid (getC b = (.zero, 5)) := HF.out (fun hF => hbd (by rw [hS, hbM]; show sealL (cellOf M).body = _; rw [((body_cellOf M hM).2 hF).2]))
          have hbb : (S == b) = false := beq_eq_false_iff_ne.2 hbd
          clear hM hMb hrM h64 hr hcm ho hov hnv hxv hmv nvs xvs mvs l4 two HU2 HU4 h1 h3 HF HFm hmay HCe lD hD sb hbM hcap hS hS256 hbd
          go_enter Try.func11, Try.ntmps11
          go_wp2_with (first
            | (go_at_call 28; (with_reducible refine (HO.out _ HB.out).mono ?_); rintro e w1 ⟨rfl, hb1⟩; obtain ⟨⟨p0, p1, p2, p3⟩, f0, f1, f2, f3⟩ := HC.out _ hb1; have b1 := chain7 HB.out hb1)
            | (go_at_call 29; (with_reducible refine (HU1.out _ b1).mono ?_); rintro e w2 ⟨rfl, rfl⟩)
            | (go_at_call 29; (with_reducible refine (HU5.out _ b1).mono ?_); rintro e w2 ⟨rfl, rfl⟩)
            | (go_at_call 29; (with_reducible refine (HU6.out _ b1).mono ?_); rintro e w2 ⟨rfl, rfl⟩)
            | (go_at_call 29; (with_reducible refine (HU8.out _ b1).mono ?_); rintro e w2 ⟨rfl, rfl⟩)
            | (go_at_call 8; (with_reducible refine (HPut.out _ (by first | exact b1.alloc b1.size _ | exact (b1.alloc b1.size _).drew)).mono ?_); rintro e w6 ⟨A6, c6, rfl, s6, hb6⟩; have kA := hb1.alloc hb1.size (.cells #[.int .i64 (ov : Int), .int .i64 (nv : Int), .int .i64 (xv : Int), .slice (some ⟨b0, o + 10, none⟩) mv (c - 10)] 24); have k6 := chain7 (by first | exact kA | exact kA.drew) hb6; have b6 := chain7 HB.out k6; clear p0 p1 p2 p3 f0 f1 f2 f3; obtain ⟨⟨p0, p1, p2, p3⟩, f0, f1, f2, f3⟩ := HC.out _ k6; have s7 := HSb.out _ b6; obtain ⟨t0, t1, t2, t3⟩ := HCS.out w1 _ (chain7 (by first | exact Below.refl _ _ | exact (Below.refl _ _).drew) hb6)))
          refine bodyPost_ret (v := .tuple #[.agg #[.int .i64 0, .int .i64 0, .int .i64 0, .slice none 0 0], .int .i64 5]) (by simp [results, Try.results11, go_sem, p0, p1, p2, p3]) rfl ⟨none, 0, by rw [HV.out]; rfl, by rw [HV.out]; exact rbc_none _, below_four b6 (Nat.le_refl _) _ _ _ _⟩
    · have HV : Hid (getC b = (.zero, 5)) := HF.out (fun hF => by have := HFm.out hF; omega)
      have d0 : decide ((242 : Int) < (mv : Int)) = true := decide_eq_true (by omega)
      have d1 : decide ((mv : Int) > 242) = true := decide_eq_true (by omega)
      have d2 : decide (242 < mv) = true := decide_eq_true (by omega)
      clear hM hMb hrM h64 hr hcm ho hov hnv hxv hmv nvs xvs mvs l4 two HU2 HU4 h1 h3 HF HFm
      go_enter Try.func11, Try.ntmps11
      go_wp2_with (first
        | (go_at_call 28; (with_reducible refine (HO.out _ HB.out).mono ?_); rintro e w1 ⟨rfl, hb1⟩; obtain ⟨⟨p0, p1, p2, p3⟩, f0, f1, f2, f3⟩ := HC.out _ hb1; have b1 := chain7 HB.out hb1)
        | (go_at_call 29; (with_reducible refine (HU1.out _ b1).mono ?_); rintro e w2 ⟨rfl, rfl⟩)
        | (go_at_call 29; (with_reducible refine (HU5.out _ b1).mono ?_); rintro e w2 ⟨rfl, rfl⟩)
        | (go_at_call 29; (with_reducible refine (HU6.out _ b1).mono ?_); rintro e w2 ⟨rfl, rfl⟩)
        | (go_at_call 29; (with_reducible refine (HU8.out _ b1).mono ?_); rintro e w2 ⟨rfl, rfl⟩))
      refine bodyPost_ret (v := .tuple #[.agg #[.int .i64 0, .int .i64 0, .int .i64 0, .slice none 0 0], .int .i64 5]) (by simp [results, Try.results11, go_sem, p0, p1, p2, p3]) rfl ⟨none, 0, by rw [HV.out]; rfl, by rw [HV.out]; exact rbc_none _, below_four b1 (Nat.le_refl _) _ _ _ _⟩
  · have HV : Hid (getC b = (.zero, 5)) := HF.out (fun hF => by have := HFm.out hF; omega)
    have HU1 : Hid (∀ W, Below w.heap.size w W → Calls Try.prog 29 #[.slice (some ⟨b0, o, none⟩) 4 c] W fun e w' => e = .returned (.tuple #[.int .i64 0, .int .i64 5]) ∧ W = w') := fun W hb => HU4.out W (0, 5) (unfix_bad l4 (by omega) (by omega) (by omega)) hb
    clear hM hMb hrM h64 hr hcm ho hov hnv hxv hmv nvs xvs mvs l4 two HU2 HU4 h1 HF HFm
    go_enter Try.func11, Try.ntmps11
    go_wp2_with (first
      | (go_at_call 28; (with_reducible refine (HO.out _ HB.out).mono ?_); rintro e w1 ⟨rfl, hb1⟩; obtain ⟨⟨p0, p1, p2, p3⟩, f0, f1, f2, f3⟩ := HC.out _ hb1; have b1 := chain7 HB.out hb1)
      | (go_at_call 29; (with_reducible refine (HU1.out _ b1).mono ?_); rintro e w2 ⟨rfl, rfl⟩)
      | (go_at_call 29; (with_reducible refine (HU5.out _ b1).mono ?_); rintro e w2 ⟨rfl, rfl⟩)
      | (go_at_call 29; (with_reducible refine (HU6.out _ b1).mono ?_); rintro e w2 ⟨rfl, rfl⟩)
      | (go_at_call 29; (with_reducible refine (HU8.out _ b1).mono ?_); rintro e w2 ⟨rfl, rfl⟩))
    refine bodyPost_ret (v := .tuple #[.agg #[.int .i64 0, .int .i64 0, .int .i64 0, .slice none 0 0], .int .i64 5]) (by simp [results, Try.results11, go_sem, p0, p1, p2, p3]) rfl ⟨none, 0, by rw [HV.out]; rfl, by rw [HV.out]; exact rbc_none _, below_four b1 (Nat.le_refl _) _ _ _ _⟩
theorem rcget_any (b : List UInt8) (A : Option Addr) (c : Nat) (w : World) (hr : RB w w.heap.size A b) (hc : b.length ≤ c) (hcm : c ≤ 9223372036854775807) :
    Calls Try.prog 11 #[.slice A b.length c] w (GivesCc (getC b) w) := by
  by_cases h64 : b.length = 256
  · obtain ⟨b0, o, rfl, _, _⟩ := hr.at_ (by omega)
    rw [h64]
    cases ho : openL b with
    | none => exact rcget_sum b _ c w h64 hr (by omega) hcm ho
    | some M => exact rcget_in b M b0 o c w h64 hr (by omega) hcm ho
  · exact rcget_size b _ A c w rfl h64
end Go.Proofs.Ytpedgkghfehkjaa
end
section
set_option linter.unusedVariables false
set_option linter.unusedSimpArgs false
namespace Go.Proofs.Ytpedgkghfehkjaa
open Go.RowKit Go.Shelf
section
variable {V W : World} {row : Option Nat}
theorem blk_kept {g : Nat} {t : TypeId} {cs : Array Value} (h : Blk V g t cs) (hg : V.grownBy W row) (hr : ∀ r, row = some r → ∃ o : Obj, V.heap[r]? = some o ∧ o.isCells = false) : Blk W g t cs :=
  h.grown hg (fun e => by
    obtain ⟨o, ho, hc⟩ := hr g e.symm
    rw [show V.heap[g]? = _ from h] at ho
    cases ho
    cases hc)
theorem own_kept_ {base n size : Nat} {e : TypeId} {v : Value} {xs : List Value} (h : V.ownsRow base e size v n xs) (hg : V.grownBy W row) (hr : ∀ r, row = some r → ∃ o : Obj, V.heap[r]? = some o ∧ o.isCells = false) : W.ownsRow base e size v n xs := by
  refine ⟨h.1, ?_⟩
  rcases h.2 with h1 | ⟨g, cap, cur, rfl, h2, h3, h4⟩
  · exact .inl h1
  · exact .inr ⟨g, cap, cur, rfl, h2, blk_kept (t := e) h3 hg hr, h4⟩
theorem rb_kept {A : Option Addr} {L : List UInt8} (h : RB V V.heap.size A L) (hg : V.grownBy W row) (hr : ∀ r, row = some r → ∃ o : Obj, V.heap[r]? = some o ∧ o.isCells = false) : RB W W.heap.size A L := by
  refine ⟨h.1, fun h0 => ?_⟩
  obtain ⟨ad, e, hb, hc⟩ := h.2 h0
  exact ⟨ad, e, Nat.lt_of_lt_of_le hb hg.size, fun j u hu => cell_kept (hc j u hu) hg hr⟩
theorem turns_kept {U : World} {F : Nat → Prop} (h : Turns U V F F) (hg : V.grownBy W row) (hr : ∀ r, row = some r → U.heap.size ≤ r) : Turns U W F F :=
  ⟨hg.os.trans h.os, hg.tape.trans h.tape, hg.output.trans h.output, Nat.le_trans h.size hg.size,
   fun k hk hn => (hg.block k (Nat.lt_of_lt_of_le hk h.size) (fun e => by have := hr k e.symm; omega)).trans (h.block k hk hn), h.foot⟩
end
theorem keeps_turns {B : Nat} {V W : World} {F : Nat → Prop} (h : Turns V W F F) (hF : ∀ k, F k → ∃ t cs, Blk V k t cs) : KeepsFrom B V W :=
  ⟨h.size, fun k o _ hk ho => by
    by_cases hf : F k
    · obtain ⟨t, cs, hb⟩ := hF k hf
      rw [show V.heap[k]? = _ from hb] at hk
      cases hk
      cases ho
    · exact (h.block k (Array.getElem?_eq_some_iff.1 hk).1 hf).trans hk⟩
theorem own_base {W : World} {base g n c size : Nat} {e : TypeId} {xs : List Value} (h : W.ownsRow base e size (.slice (some ⟨g, 0, none⟩) n c) n xs) : W.ownsRow g e size (.slice (some ⟨g, 0, none⟩) n c) n xs := by
  refine ⟨h.1, ?_⟩
  rcases h.2 with h1 | ⟨g', cap, cur, he, h2, h3⟩
  · exact .inl h1
  · have : g' = g := by
      simp only [Value.slice.injEq, Option.some.injEq, Addr.mk.injEq] at he
      exact he.1.1.symm
    subst this
    exact .inr ⟨g', cap, cur, he, Nat.le_refl _, h3⟩
theorem keepsAt_b {B : Nat} {w : World} (hB : B < w.heap.size) (W : World) (l : Nat) (o o' : Obj) (hl : w.heap.size ≤ l) (h : W.heap[l]? = some o) (_ : o.isCells = false) (_ : o.isWalk = false) : KeepsAt B W (W.putObj l o') :=
  World.cell?_of_block ((grownBy_putObj' W l o').block B (by have := (Array.getElem?_eq_some_iff.1 h).1; omega) (fun e => by cases e; omega))
structure CutE (w W8 : World) (o : Int) (ps : List Int) (t : List UInt8) (np n cB tb tf gN cN bn gr bl bt : Nat) : Prop where
  hn : n = t.length
  hp : np = ps.length
  hN : np = needC n
  h1 : 1 ≤ n
  hl : n ≤ 262144
  hc : n ≤ cB
  place : ps.any (fun p => !placeOk p) = false
  ord : w.heap.size + 2 < bn ∧ bn < gr ∧ gr < bl ∧ bl < bt ∧ bt < W8.heap.size ∧ w.heap.size + 2 < gN ∧ gN < bn
  b0 : Blk W8 w.heap.size 3 #[.int .i64 o]
  b1 : Blk W8 (w.heap.size + 1) 35 #[.slice none 0 0]
  b2 : Blk W8 (w.heap.size + 1 + 1) 26 #[.int .i64 0]
  bN : Blk W8 bn 34 #[.slice (some ⟨gN, 0, none⟩) np cN]
  nx : ∀ i, i < np → W8.cell? ⟨gN, i, none⟩ = some (.int .i64 (ps.getD (i + 1) 0))
  bL : Blk W8 bl 35 #[.slice (some ⟨gr, 0, none⟩) 0 np]
  own : W8.ownsRow gr 24 4 (.slice (some ⟨gr, 0, none⟩) 0 np) 0 []
  bT : W8.cell? ⟨bt, 0, none⟩ = some (.slice (some ⟨tb, tf, none⟩) n cB)
  below : Below w.heap.size w W8
  text : RB w w.heap.size (some ⟨tb, tf, none⟩) t
def cutF (gr bl : Nat) (k : Nat) : Prop := k = bl ∨ k = gr
def CutI (W8 : World) (o : Int) (ps : List Int) (t : List UInt8) (np gr bl : Nat) (js : List Nat) (W : World) : Prop :=
  Turns W8 W (cutF gr bl) (cutF gr bl) ∧ Blk W bl 35 #[.slice (some ⟨gr, 0, none⟩) js.length np] ∧ (∀ j ∈ js, (cutAt o ps t j).may = true) ∧
    ∃ rows, W.ownsRow gr 24 4 (.slice (some ⟨gr, 0, none⟩) js.length np) js.length (rowE rows) ∧ rows.length = js.length ∧ rows.map (·.1) = js.map (cutAt o ps t) ∧ ∀ x ∈ rows, RB W W.heap.size x.2.1 x.1.data ∧ ∀ ad, x.2.1 = some ad → W8.heap.size ≤ ad.block
def cutG (s gr bl : Nat) (k : Nat) : Prop := k = bl ∨ k = gr ∨ k = s + 1 ∨ k = s + 1 + 1
def CutX (W8 : World) (s : Nat) (o : Int) (ps : List Int) (t : List UInt8) (np gr bl : Nat) (c : Code) (W : World) : Prop :=
  c = .ret ∧ Turns W8 W (cutG s gr bl) (cutG s gr bl) ∧ Blk W (s + 1) 35 #[.slice none 0 0] ∧ Blk W (s + 1 + 1) 26 #[.int .i64 1] ∧ ∃ i, i < np ∧ (cutAt o ps t i).may = false
theorem cutI_own {β : Type} (f : β → List Nat) (W8 : World) (o : Int) (ps : List Int) (t : List UInt8) (np gr bl : Nat) : OwnFrom W8.heap.size (fun s W => CutI W8 o ps t np gr bl (f s) W) := by
  rintro s V W row ⟨h1, h2, h3, rows, h4, h5, h6, h7⟩ hg hr
  have hr' : ∀ r, row = some r → ∃ o : Obj, V.heap[r]? = some o ∧ o.isCells = false := fun r e => (hr r e).2
  exact ⟨turns_kept h1 hg (fun r e => (hr r e).1), blk_kept h2 hg hr', h3, rows, own_kept_ h4 hg hr', h5, h6, fun x hx => ⟨rb_kept (h7 x hx).1 hg hr', (h7 x hx).2⟩⟩
theorem cutX_own {β : Type} (W8 : World) (s : Nat) (o : Int) (ps : List Int) (t : List UInt8) (np gr bl : Nat) (c : Code) : OwnFrom W8.heap.size (fun (_ : β) W => CutX W8 s o ps t np gr bl c W) := by
  rintro _ V W row ⟨h1, h2, h3, h4, h5⟩ hg hr
  have hr' : ∀ r, row = some r → ∃ o : Obj, V.heap[r]? = some o ∧ o.isCells = false := fun r e => (hr r e).2
  exact ⟨h1, turns_kept h2 hg (fun r e => (hr r e).1), blk_kept h3 hg hr', blk_kept h4 hg hr', h5⟩
section
variable {w W8 W : World} {o : Int} {ps : List Int} {t : List UInt8} {np n cB tb tf gN cN bn gr bl bt : Nat} {js : List Nat}
theorem CutE.start (h : CutE w W8 o ps t np n cB tb tf gN cN bn gr bl bt) : CutI W8 o ps t np gr bl [] W8 :=
  ⟨Turns.refl _ _, h.bL, fun j hj => (by cases hj), [], h.own, rfl, rfl, fun x hx => (by cases hx)⟩
theorem CutE.far (h : CutE w W8 o ps t np n cB tb tf gN cN bn gr bl bt) : ¬ cutF gr bl w.heap.size ∧ ¬ cutF gr bl (w.heap.size + 1) ∧ ¬ cutF gr bl (w.heap.size + 1 + 1) ∧ ¬ cutF gr bl bn ∧ ¬ cutF gr bl gN ∧ ¬ cutF gr bl bt := by
  obtain ⟨a1, a2, a3, a4, a5, a6, a7⟩ := h.ord
  unfold cutF
  refine ⟨?_, ?_, ?_, ?_, ?_, ?_⟩ <;> omega
theorem CutE.reads (h : CutE w W8 o ps t np n cB tb tf gN cN bn gr bl bt) (hi : CutI W8 o ps t np gr bl js W) {V : World} (hV : Below W.heap.size W V) {i : Nat} (hin : i < np) :
    V.cell? ⟨w.heap.size, 0, none⟩ = some (.int .i64 o) ∧ V.cell? ⟨bn, 0, none⟩ = some (.slice (some ⟨gN, 0, none⟩) np cN) ∧ V.cell? ⟨gN, i, none⟩ = some (.int .i64 (ps.getD (i + 1) 0)) := by
  obtain ⟨a1, a2, a3, a4, a5, a6, a7⟩ := h.ord
  obtain ⟨f0, f1, f2, fn, fN, ft⟩ := h.far
  have hs := hi.1.size
  refine ⟨?_, ?_, ?_⟩
  · rw [hV.cell (p := ⟨w.heap.size, 0, none⟩) (by show w.heap.size < _; omega), hi.1.cell (p := ⟨w.heap.size, 0, none⟩) (by show w.heap.size < _; omega) f0]
    exact h.b0.cell 0
  · rw [hV.cell (p := ⟨bn, 0, none⟩) (by show bn < _; omega), hi.1.cell (p := ⟨bn, 0, none⟩) (by show bn < _; omega) fn]
    exact h.bN.cell 0
  · rw [hV.cell (p := ⟨gN, i, none⟩) (by show gN < _; omega), hi.1.cell (p := ⟨gN, i, none⟩) (by show gN < _; omega) fN]
    exact h.nx i hin
theorem CutE.low (h : CutE w W8 o ps t np n cB tb tf gN cN bn gr bl bt) (hi : Turns W8 W (cutF gr bl) (cutF gr bl)) : Below w.heap.size w W := by
  obtain ⟨a1, a2, a3, a4, a5, a6, a7⟩ := h.ord
  exact h.below.trans (hi.below (fun k hk => by unfold cutF at hk; omega) (by omega))
def partN (n i : Nat) : Nat := if n < i * 242 + 242 then n - i * 242 else 242
theorem CutE.part (h : CutE w W8 o ps t np n cB tb tf gN cN bn gr bl bt) {i : Nat} (hin : i < np) : partN n i = ((t.drop (242 * i)).take 242).length ∧ (cutAt o ps t i).data.length = partN n i ∧ partN n i ≤ 242 ∧ 242 * i < n := by
  have h1 := h.hN
  have h2 := h.hn
  unfold needC at h1
  have e : ((t.drop (242 * i)).take 242).length = min 242 (t.length - 242 * i) := by rw [List.length_take, List.length_drop]
  have e2 : partN n i = min 242 (t.length - 242 * i) := by unfold partN; split <;> omega
  exact ⟨by rw [e, e2], by rw [e2, ← e]; rfl, by rw [e2]; omega, by omega⟩
theorem CutE.bytes (h : CutE w W8 o ps t np n cB tb tf gN cN bn gr bl bt) (hi : CutI W8 o ps t np gr bl js W) {V : World} (hV : Below W.heap.size W V) {i : Nat} (hin : i < np) : RB V V.heap.size (some ⟨tb, tf + i * 242, none⟩) (cutAt o ps t i).data := by
  obtain ⟨p1, p2, p3, p4⟩ := h.part hin
  have hb : Below w.heap.size w V := (h.low hi.1).trans (hV.mono (h.low hi.1).size)
  have hr := rb_up7 h.text hb
  have hq : (cutAt o ps t i).data = (t.drop (i * 242)).take (partN n i) := by
    show (t.drop (242 * i)).take 242 = _
    rw [Nat.mul_comm i 242, p1]
    apply List.take_eq_take_iff.2
    simp
  rw [hq]
  exact sub_rb hr (i * 242) (partN n i) (by rw [← h.hn]; rw [← p2]; show _ + ((t.drop (242 * i)).take 242).length ≤ _; rw [List.length_take, List.length_drop, ← h.hn]; omega) (Nat.lt_succ_self _)
end
end Go.Proofs.Ytpedgkghfehkjaa
end
