/- DiskLoads returns true for all bytes and every list of deeds, and leaves memory that was there as it was; nothing else is assumed beyond the statement itself. -/
import Derived.Test.YthaljnnkpfeooaaDiskDoesM
import Derived.Test.YthaljnnkpfeooaaDiskAlike
import Derived.Test.YthaljnnkpfeooaaDiskTears
import Derived.Deep.RegionHeldLaw
set_option linter.unusedVariables false
namespace Go.Proofs.Ythaljnnkpfeooaa
open Go.ChangeShapes Go.WideShapes Go.ChangeAt Go.RowKit

set_option maxRecDepth 100000 in
set_option maxHeartbeats 2000000 in
theorem loads_out (p : Nat) (A0 : Option Addr) (c0 : Nat) (l : List Dd) (A : Option Addr) (n c : Nat) (w : World) (hD : DL w w.heap.size A l) (hn : n = l.length) (h : 8192 < p ∨ (p ≤ 8192 ∧ fewL l = false)) :
    Calls Try.prog 4 #[.slice A0 p c0, .slice A n c] w fun e w' => e = .returned (.bool true) ∧ Below w.heap.size w w' := by
  have HF : Hid (Calls Try.prog 8 #[.slice A n c] w fun e w' => e = .returned (.bool (fewL l)) ∧ Below w.heap.size w w') := few_any l A n c (Below.refl _ _) hD hn
  have HAw := Lib.hid awake6_any
  have n0 := fun w' => Try.notFalse w'
  have n1 := fun w' => Try.notTrue w'
  clear hD hn
  rcases h with h | ⟨h1, h2⟩
  · have e1 : decide ((p : Int) > 8192) = true := decide_eq_true (by omega)
    have e2 : decide ((8192 : Int) < (p : Int)) = true := decide_eq_true (by omega)
    have e3 : decide (8192 < p) = true := decide_eq_true (by omega)
    go_enter Try.func4, Try.ntmps4
    go_wp2_with (first
      | (go_at_call 9; (with_reducible refine (HAw.out _).mono ?_); rintro e w3 ⟨rfl, hb3⟩))
    go_ret
    exact ⟨rfl, hb3⟩
  · have e1 : decide ((p : Int) > 8192) = false := decide_eq_false (by omega)
    have e2 : decide ((8192 : Int) < (p : Int)) = false := decide_eq_false (by omega)
    have e3 : decide (8192 < p) = false := decide_eq_false (by omega)
    rw [h2] at HF
    go_enter Try.func4, Try.ntmps4
    go_wp2_with (first
      | (go_at_call 8; (with_reducible refine HF.out.mono ?_); rintro e w2 ⟨rfl, hb2⟩)
      | (go_at_call 9; (with_reducible refine (HAw.out _).mono ?_); rintro e w3 ⟨rfl, hb3⟩))
    go_ret
    exact ⟨rfl, chain6 hb2 hb3⟩
set_option maxRecDepth 100000 in
set_option maxHeartbeats 2000000 in
theorem loads_bad (L : List UInt8) (p : Nat) (A0 : Option Addr) (c0 : Nat) (l : List Dd) (A : Option Addr) (n c : Nat) (w : World) (hD : DL w w.heap.size A l) (hn : n = l.length) (hp : p = L.length) (h : p ≤ 8192) (hm : ¬ Dk.mayL L) (hf : fewL l = true) :
    Calls Try.prog 4 #[.slice A0 p c0, .slice A n c] w fun e w' => e = .returned (.bool true) ∧ Below w.heap.size w w' := by
  have HF : Hid (Calls Try.prog 8 #[.slice A n c] w fun e w' => e = .returned (.bool (fewL l)) ∧ Below w.heap.size w w') := few_any l A n c (Below.refl _ _) hD hn
  have HAw := Lib.hid awake6_any
  have HB := Lib.hid (fun W => load_bad L A0 p c0 W hp (by omega) hm)
  have HR := Lib.hid (fun W => rload_bad L A0 p c0 W hp (by omega) hm)
  have n0 := fun w' => Try.notFalse w'
  have n1 := fun w' => Try.notTrue w'
  have y0 := fun w' => Try.rNilNot w'
  have y1 := fun w' => Try.dNilNot w'
  have y2 := fun w' => Try.rNilIs w'
  have e1 : decide ((p : Int) > 8192) = false := decide_eq_false (by omega)
  have e2 : decide ((8192 : Int) < (p : Int)) = false := decide_eq_false (by omega)
  have e3 : decide (8192 < p) = false := decide_eq_false (by omega)
  rw [hf] at HF
  clear hD hn h hf hp hm
  go_enter Try.func4, Try.ntmps4
  go_wp2_with (first
    | (go_at_call 8; (with_reducible refine HF.out.mono ?_); rintro e w2 ⟨rfl, hb2⟩)
    | (go_at_call 15; (with_reducible refine (HB.out _).mono ?_); rintro e w1 ⟨rfl, rfl⟩)
    | (go_at_call 16; (with_reducible refine (HR.out _).mono ?_); rintro e w1 ⟨rfl, rfl⟩))
  have HbN : Hid (∀ k, Below w.heap.size w (w2.drewN k)) := fun k => ⟨hb2.os, hb2.tape, hb2.output, hb2.size, hb2.block⟩
  go_quiet (fail)
  have hbn : Hid (Below w.heap.size w (w2.drewN nq)) := HbN.out nq
  go_wp2
  go_loopw [9] (fun v wr => v = .int .i64 0 ∧ Hid (Below w.heap.size w wr)) (fun _ _ => 0)
  case atStart => exact ⟨rfl, hbn⟩
  case round =>
    obtain ⟨rfl, hb⟩ := hrel
    by_cases h0 : 0 < n
    · have d0 : decide ((0 : Int) < (n : Int)) = true := decide_eq_true (by omega)
      have d1 : decide (0 < n) = true := decide_eq_true h0
      go_wp2_with (first
        | (go_at_call 9; (with_reducible refine (HAw.out _).mono ?_); rintro e w3 ⟨rfl, hb3⟩))
      go_ret
      exact ⟨rfl, chain6 hb.out hb3⟩
    · have h00 : n = 0 := by omega
      subst h00
      go_wp2_with (first
        | (go_at_call 9; (with_reducible refine (HAw.out _).mono ?_); rintro e w3 ⟨rfl, hb3⟩))
      go_ret
      exact ⟨rfl, chain6 hb.out hb3⟩
set_option maxRecDepth 100000 in
set_option maxHeartbeats 4000000 in
theorem loads_in (L : List UInt8) (p : Nat) (A0 : Option Addr) (c0 : Nat) (l : List Dd) (A : Option Addr) (n c : Nat) (w : World) (hL : RB w w.heap.size A0 L) (hc0 : p ≤ c0) (hcm : c0 ≤ 9223372036854775807) (hD : DL w w.heap.size A l) (hn : n = l.length) (hp : p = L.length) (h : p ≤ 8192) (hm : Dk.mayL L) (hf : fewL l = true) :
    Calls Try.prog 4 #[.slice A0 p c0, .slice A n c] w fun e w' => e = .returned (.bool true) ∧ Below w.heap.size w w' := by
  have HF : Hid (Calls Try.prog 8 #[.slice A n c] w fun e w' => e = .returned (.bool (fewL l)) ∧ Below w.heap.size w w') := few_any l A n c (Below.refl _ _) hD hn
  obtain ⟨h40, h600⟩ := fewL_all hf
  have HAw := Lib.hid awake6_any
  obtain ⟨D0, hD0⟩ : ∃ D, D = Dk.ofImage L := ⟨_, rfl⟩
  have HB : Hid (∀ W, Below w.heap.size w W → Calls Try.prog 15 #[.slice A0 p c0] W fun e w' => ∃ g F, e = .returned (.tuple #[.pointer (some ⟨g, 0, none⟩), .int .i64 0]) ∧ GivesDisk D0 W w' g F) := fun W hb => by
    rw [hp, hD0]; exact load_any L A0 c0 W (rb_up hL hb) hm
  have HR : Hid (∀ W, Below w.heap.size w W → Calls Try.prog 16 #[.slice A0 p c0] W fun e w' => ∃ g G B, e = .returned (.tuple #[.pointer (some ⟨g, 0, none⟩), .int .i64 0]) ∧ GivesRef D0 W w' g G B) := fun W hb => by
    rw [hD0]; exact rload_any L A0 p c0 W (rb_up hL hb) hp hc0 hcm hm
  have HSa : Hid (∀ W g F, PDisk W g F D0 → Calls Try.prog 17 #[.pointer (some ⟨g, 0, none⟩)] W fun e w' => ∃ A c, e = .returned (.slice A p c) ∧ RB w' w'.heap.size A L ∧ Below W.heap.size W w') := fun W g F hW => by
    have h1 := safe_any hW
    rw [hD0, image_sure hm] at h1
    exact h1.mono fun e w' hh => one_out hp hh
  have n0 := fun w' => Try.notFalse w'
  have n1 := fun w' => Try.notTrue w'
  have y0 := fun g w' => Try.rNotNil g w'
  have y1 := fun g w' => Try.dNotNil g w'
  have y2 := fun g w' => Try.rIsNil g w'
  have e1 : decide ((p : Int) > 8192) = false := decide_eq_false (by omega)
  have e2 : decide ((8192 : Int) < (p : Int)) = false := decide_eq_false (by omega)
  have e3 : decide (8192 < p) = false := decide_eq_false (by omega)
  rw [hf] at HF
  have HD := Lib.hid hD
  have Hn := Lib.hid hn
  have HL := Lib.hid hL
  have Hp := Lib.hid hp
  have H40 : Hid (l.length ≤ 40 ∧ ∀ i (hi : i < l.length), l[i].data.length ≤ 600) := ⟨h40, h600⟩
  have HPl : Hid (∀ i, i ≤ l.length → (playsD D0 l i).load ≤ 80) := fun i hi => by
    have := plays_load D0 l i hi
    have h0 : D0.load = 0 := by rw [hD0]; rfl
    omega
  have hn40 : n ≤ 40 := by omega
  clear hD hn hf h40 h600 h hm hL hp hD0
  go_enter Try.func4, Try.ntmps4
  go_wp2_with (first
    | (go_at_call 8; (with_reducible refine HF.out.mono ?_); rintro e w2 ⟨rfl, hb2⟩)
    | (go_at_call 15; (with_reducible refine (HB.out _ hb2).mono ?_); rintro e w3 ⟨g, F0, rfl, hG⟩; have hb3 := chain6 hb2 hG.2.1)
    | (go_at_call 16; (with_reducible refine (HR.out _ hb3).mono ?_); rintro e w4 ⟨q, G0, B0, rfl, hR⟩; have hT0 : Two [] w w4 g F0 D0 q G0 B0 D0 := Two.gives hb2 hG hR))
  have tD : Two [] w w4.drew g F0 D0 q G0 B0 D0 := hT0.more (Below.refl _ _).drew
  have f0 := aw_str (rb_up HL.out tD.p.below) p c0 Hp.out
  clear hT0 hG hR hb2 hb3
  go_region_held_law (fun w' => (convert 33 9 (.slice A0 p c0)).run Try.prog w' = .ok (.string ⟨L.toArray⟩) w') (assumption)
    (first
      | (go_at_call 17; (with_reducible refine (HSa.out _ _ _ tD.p.disk).mono ?_); rintro e w5 ⟨A5, c5, rfl, r5, k5⟩; have tE := tD.more k5; have f5 := aw_str r5 p c5 Hp.out; have f6 := aw_str (rb_up HL.out tE.p.below) p c0 Hp.out))
  go_wp2
  go_loopw [9] (fun x wr => ∃ i : Nat, i ≤ n ∧ x = .int .i64 (i : Int) ∧ Hid (Did [] w g q (playsD D0 l i) wr)) (fun x _ => n - (intOf x).toNat)
  case atStart => exact ⟨0, by omega, rfl, F0, G0, B0, tE⟩
  case round =>
    clear tE tD
    obtain ⟨i, hi, rfl, hH⟩ := hrel
    by_cases hlt : i < n
    · have hi2 : i < l.length := by have := Hn.out; omega
      obtain ⟨b, off, rfl, hbb, hcc⟩ := HD.out (by omega)
      obtain ⟨dA, dc, mA, mc, hV, k0, k1, k2, k3, k4⟩ := hcc i hi2
      obtain ⟨F, G, B, hT⟩ := hH.out
      obtain ⟨kd, hkd⟩ : ∃ x, x = l[i].kind := ⟨_, rfl⟩
      obtain ⟨nn, hnn⟩ : ∃ x, x = l[i].n := ⟨_, rfl⟩
      obtain ⟨dl, hdl⟩ : ∃ x, x = l[i].data.length := ⟨_, rfl⟩
      obtain ⟨od, hod⟩ : ∃ x, x = l[i].odd := ⟨_, rfl⟩
      obtain ⟨ml, hml⟩ : ∃ x, x = l[i].masks.length := ⟨_, rfl⟩
      obtain ⟨d', hd'⟩ : ∃ x, x = playsD D0 l (i + 1) := ⟨_, rfl⟩
      have HDo : Hid (Calls Try.prog 12 #[.pointer (some ⟨g, 0, none⟩), .pointer (some ⟨q, 0, none⟩), .agg #[.int .i64 kd, .int .i64 nn, .slice dA dl dc, .bool od, .slice mA ml mc]] wr fun e w' => e = .returned (.bool true) ∧ Did [] w g q d' w') := by
        rw [hkd, hnn, hdl, hod, hml, hd', plays_succ _ l i hi2]
        exact do_any hT (by have := HPl.out i (by omega); omega) l[i] dA mA dc mc hV (by have := H40.out.2 i hi2; omega)
      have hb := hT.p.below
      have v0 : wr.cell? ⟨b, off + i * 5, none⟩ = some (.int .i64 kd) := by rw [hkd]; exact (hb.cell (p := ⟨b, off + i * 5, none⟩) hbb).trans k0
      have v1 : wr.cell? ⟨b, off + i * 5 + 1, none⟩ = some (.int .i64 nn) := by rw [hnn]; exact (hb.cell (p := ⟨b, off + i * 5 + 1, none⟩) hbb).trans k1
      have v2 : wr.cell? ⟨b, off + i * 5 + 2, none⟩ = some (.slice dA dl dc) := by rw [hdl]; exact (hb.cell (p := ⟨b, off + i * 5 + 2, none⟩) hbb).trans k2
      have v3 : wr.cell? ⟨b, off + i * 5 + 3, none⟩ = some (.bool od) := by rw [hod]; exact (hb.cell (p := ⟨b, off + i * 5 + 3, none⟩) hbb).trans k3
      have v4 : wr.cell? ⟨b, off + i * 5 + 4, none⟩ = some (.slice mA ml mc) := by rw [hml]; exact (hb.cell (p := ⟨b, off + i * 5 + 4, none⟩) hbb).trans k4
      have d0 : decide ((i : Int) < (n : Int)) = true := decide_eq_true (by omega)
      have d1 : decide (i < n) = true := decide_eq_true hlt
      have a36 := fun w' => Try.agg36 w'
      have s36 := fun w' => Try.size36 w'
      have HD' := Lib.hid hd'
      clear hcc k0 k1 k2 k3 k4 hV hkd hnn hdl hod hml hd' hbb hb hT hH
      go_wp2_with (go_at_call 12; (with_reducible refine HDo.out.mono ?_); rintro e w1 ⟨rfl, t1⟩)
      refine ⟨⟨i + 1, by omega, by go_num, by rw [← HD'.out]; exact t1⟩, ?_⟩
      simp [intOf]; omega
    · have d0 : decide ((i : Int) < (n : Int)) = false := decide_eq_false (by omega)
      have d1 : decide (i < n) = false := decide_eq_false hlt
      obtain ⟨F, G, B, hT⟩ := hH.out
      have HAl : Hid (Calls Try.prog 13 #[.pointer (some ⟨g, 0, none⟩), .pointer (some ⟨q, 0, none⟩)] wr fun e w' => e = .returned (.bool true) ∧ Two [] w w' g F (playsD D0 l i) q G B (playsD D0 l i) ∧ Below wr.heap.size wr w') :=
        alike_any hT (by have := HPl.out i (by have := Hn.out; omega); omega)
      clear hT hH
      go_wp2_with (first
        | (go_at_call 13; (with_reducible refine HAl.out.mono ?_); rintro e w2 ⟨rfl, t2, k2⟩)
        | (go_at_call 9; (with_reducible refine (HAw.out _).mono ?_); rintro e w3 ⟨rfl, hb3⟩))
      go_ret
      exact ⟨rfl, chain6 t2.p.below hb3⟩
theorem loads_any (L : List UInt8) (A0 : Option Addr) (c0 : Nat) (l : List Dd) (A : Option Addr) (c : Nat) (w : World) (hL : RB w w.heap.size A0 L) (hc0 : L.length ≤ c0) (hcm : c0 ≤ 9223372036854775807) (hD : DL w w.heap.size A l) :
    Calls Try.prog 4 #[.slice A0 L.length c0, .slice A l.length c] w fun e w' => e = .returned (.bool true) ∧ Below w.heap.size w w' := by
  by_cases h : 8192 < L.length
  · exact loads_out _ A0 c0 l A _ c w hD rfl (.inl h)
  · cases hf : fewL l with
    | false => exact loads_out _ A0 c0 l A _ c w hD rfl (.inr ⟨by omega, hf⟩)
    | true =>
      by_cases hm : Dk.mayL L
      · exact loads_in L _ A0 c0 l A _ c w hL hc0 hcm hD rfl rfl (by omega) hm hf
      · exact loads_bad L _ A0 c0 l A _ c w hD rfl rfl (by omega) hm hf
set_option maxRecDepth 100000 in
theorem loads_lifted (os : Os) (started : os.Started) (H : Type) (enc : TypeId × Value → H) :
    ReturnsInHanded {} Try.checked os 4 .any (Rows.diskLoadsSpec.pre6 enc Try.prog Try.f4 Rows.diskLoadsRow.domain false) (Rows.diskLoadsSpec.post enc Try.prog Try.f4 false true false false) := by
  refine returnsInHanded_of_change_sized (C := Try.checked) Try.own started (by kernel_rfl) Try.func4
    (ChangeSpec.witness6 (enc := enc) (C := Try.checked) false ⟨#[], #[.slice none 0 0, .slice none 0 0], []⟩ 8 (by kernel_rfl) (by kernel_rfl) (by kernel_rfl) (by kernel_rfl)) ?_
  intro W base args ds gs before hval0 hW hcnd hsz0 _
  have hval : ∀ (j : Nat) t v, Try.f4.params[j]? = some t → args[j]? = some v → Value.okWide Try.prog W .any base t v := hval0
  have hW' : DataW.Whole enc Try.prog Try.f4.params.toList Rows.diskLoadsSpec.vars false W args.toList ds gs before := hW
  have hWk := hW'
  clear hsz0 hval0
  obtain ⟨p, q, hA, hV, rfl, hfz, hnd⟩ := hW'
  rw [Try.params4] at hA hval
  obtain ⟨v0, v1, d0, d1, p0, p1, rfl, rfl, rfl, h0, h1⟩ := trodAll_two hA
  obtain ⟨rfl, rfl⟩ := trodVars_none hV
  obtain ⟨A0, L, c0, rfl, hL, hlc, hcm⟩ := open_bytes Try.underlying33 Try.underlying5 Try.cells5 (hval 0 33 v0 rfl rfl) h0
  obtain ⟨A, D, c, rfl, hD, _, _⟩ := open_dl (hval 1 22 v1 rfl rfl) h1
  refine (loads_any L A0 c0 D A c W hL hlc (by unfold maxLen at hcm; omega) hD).mono fun e W' ⟨he, hb⟩ => ⟨_, he, ?_⟩
  exact law_post Try.laidOut hWk rfl rfl rfl rfl rfl Try.underlying4 (by kernel_rfl) hb
theorem loads_holds : Rows.DiskLoadsSaid :=
  OpenClaim.holds_of_wide 4 Try.f4 rfl rfl rfl rfl rfl rfl rfl ⟨rfl, rfl, rfl, rfl, rfl⟩ rfl rfl rfl rfl rfl (by kernel_rfl) Try.func4 (by kernel_rfl)
    (of_decide_eq_true (by kernel_rfl)) (by unfold Func.isWrapper; first | (rw [if_pos (by decide +kernel)]; kernel_rfl) | (rw [if_neg (by decide +kernel)]; exact ⟨rfl, rfl⟩))
    (fun os started H enc _ => loads_lifted os started H enc)
end Go.Proofs.Ythaljnnkpfeooaa
