/- DiskDoes returns true for every number and every list of deeds, and leaves memory that was there as it was; nothing else is assumed beyond the statement itself. -/
import Derived.Test.YthaljnnkpfeooaaDiskDoesM
import Derived.Test.YthaljnnkpfeooaaDiskAlike
import Derived.Test.YthaljnnkpfeooaaDiskTears
import Derived.Deep.RegionWith
set_option linter.unusedVariables false
namespace Go.Proofs.Ythaljnnkpfeooaa
open Go.ChangeShapes Go.WideShapes Go.ChangeAt Go.RowKit

set_option maxRecDepth 100000 in
set_option maxHeartbeats 2000000 in
theorem does_out (z : Int) (l : List Dd) (A : Option Addr) (n c : Nat) (w : World) (hD : DL w w.heap.size A l) (hn : n = l.length) (h : 64 < z ∨ (z ≤ 64 ∧ fewL l = false)) :
    Calls Try.prog 3 #[.int .i64 z, .slice A n c] w fun e w' => e = .returned (.bool true) ∧ Below w.heap.size w w' := by
  have HF : Hid (Calls Try.prog 8 #[.slice A n c] w fun e w' => e = .returned (.bool (fewL l)) ∧ Below w.heap.size w w') := few_any l A n c (Below.refl _ _) hD hn
  have HAw := Lib.hid awake6_any
  have n0 := fun w' => Try.notFalse w'
  have n1 := fun w' => Try.notTrue w'
  clear hD hn
  rcases h with h | ⟨h1, h2⟩
  · have e1 : decide (z > 64) = true := decide_eq_true (by omega)
    have e2 : decide (64 < z) = true := decide_eq_true (by omega)
    go_enter Try.func3, Try.ntmps3
    go_wp2_with (first
      | (go_at_call 9; (with_reducible refine (HAw.out _).mono ?_); rintro e w3 ⟨rfl, hb3⟩))
    go_ret
    exact ⟨rfl, hb3⟩
  · have e1 : decide (z > 64) = false := decide_eq_false (by omega)
    have e2 : decide (64 < z) = false := decide_eq_false (by omega)
    rw [h2] at HF
    go_enter Try.func3, Try.ntmps3
    go_wp2_with (first
      | (go_at_call 8; (with_reducible refine HF.out.mono ?_); rintro e w2 ⟨rfl, hb2⟩)
      | (go_at_call 9; (with_reducible refine (HAw.out _).mono ?_); rintro e w3 ⟨rfl, hb3⟩))
    go_ret
    exact ⟨rfl, chain6 hb2 hb3⟩
set_option maxRecDepth 100000 in
set_option maxHeartbeats 2000000 in
theorem does_bad (z : Int) (l : List Dd) (A : Option Addr) (n c : Nat) (w : World) (hD : DL w w.heap.size A l) (hn : n = l.length) (h : z < 16) (hf : fewL l = true) :
    Calls Try.prog 3 #[.int .i64 z, .slice A n c] w fun e w' => e = .returned (.bool true) ∧ Below w.heap.size w w' := by
  have HF : Hid (Calls Try.prog 8 #[.slice A n c] w fun e w' => e = .returned (.bool (fewL l)) ∧ Below w.heap.size w w') := few_any l A n c (Below.refl _ _) hD hn
  have HAw := Lib.hid awake6_any
  have HB := Lib.hid (fun W => blank_bad z W (.inl h))
  have HR := Lib.hid (fun W => rblank_bad z W (.inl h))
  have n0 := fun w' => Try.notFalse w'
  have n1 := fun w' => Try.notTrue w'
  have y0 := fun w' => Try.rNilNot w'
  have y1 := fun w' => Try.dNilNot w'
  have e1 : decide (z > 64) = false := decide_eq_false (by omega)
  have e2 : decide (64 < z) = false := decide_eq_false (by omega)
  rw [hf] at HF
  clear hD hn h hf
  go_enter Try.func3, Try.ntmps3
  go_wp2_with (first
    | (go_at_call 8; (with_reducible refine HF.out.mono ?_); rintro e w2 ⟨rfl, hb2⟩)
    | (go_at_call 10; (with_reducible refine (HB.out _).mono ?_); rintro e w1 ⟨rfl, rfl⟩)
    | (go_at_call 11; (with_reducible refine (HR.out _).mono ?_); rintro e w1 ⟨rfl, rfl⟩))
  go_loopw [9] (fun v wr => v = .int .i64 0 ∧ Hid (Below w.heap.size w wr)) (fun _ _ => 0)
  case atStart => exact ⟨rfl, hb2⟩
  case round =>
    obtain ⟨rfl, hb⟩ := hrel
    by_cases h0 : 0 < n
    · have d0 : decide ((0 : Int) < (n : Int)) = true := decide_eq_true (by omega)
      have d1 : decide (0 < n) = true := decide_eq_true h0
      go_wp2_with (first
        | (go_at_call 9; (with_reducible refine (HAw.out _).mono ?_); rintro e w3 ⟨rfl, hb3⟩))
      go_ret
      exact ⟨rfl, chain6 hb.out hb3⟩
    · have h00 : n = 0 := by omega
      subst h00
      go_wp2_with (first
        | (go_at_call 9; (with_reducible refine (HAw.out _).mono ?_); rintro e w3 ⟨rfl, hb3⟩))
      go_ret
      exact ⟨rfl, chain6 hb.out hb3⟩
set_option maxRecDepth 100000 in
set_option maxHeartbeats 4000000 in
theorem does_in (m : Nat) (l : List Dd) (A : Option Addr) (n c : Nat) (w : World) (hD : DL w w.heap.size A l) (hn : n = l.length) (h1 : 16 ≤ m) (h2 : m ≤ 64) (hf : fewL l = true) :
    Calls Try.prog 3 #[.int .i64 (m : Int), .slice A n c] w fun e w' => e = .returned (.bool true) ∧ Below w.heap.size w w' := by
  have HF : Hid (Calls Try.prog 8 #[.slice A n c] w fun e w' => e = .returned (.bool (fewL l)) ∧ Below w.heap.size w w') := few_any l A n c (Below.refl _ _) hD hn
  obtain ⟨h40, h600⟩ := fewL_all hf
  have HAw := Lib.hid awake6_any
  have HB : Hid (∀ W, Calls Try.prog 10 #[.int .i64 (m : Int)] W fun e w' => ∃ g F, e = .returned (.tuple #[.pointer (some ⟨g, 0, none⟩), .int .i64 0]) ∧ GivesDisk (Dk.blank m) W w' g F) := fun W => blank_any m W h1 (by omega)
  have HR : Hid (∀ W, Calls Try.prog 11 #[.int .i64 (m : Int)] W fun e w' => ∃ g G B, e = .returned (.tuple #[.pointer (some ⟨g, 0, none⟩), .int .i64 0]) ∧ GivesRef (Dk.blank m) W w' g G B) := fun W => rblank_any m W h1 (by omega)
  have n0 := fun w' => Try.notFalse w'
  have n1 := fun w' => Try.notTrue w'
  have y0 := fun g w' => Try.rNotNil g w'
  have y1 := fun g w' => Try.dNotNil g w'
  have e1 : decide ((m : Int) > 64) = false := decide_eq_false (by omega)
  have e2 : decide ((64 : Int) < (m : Int)) = false := decide_eq_false (by omega)
  have e3 : decide (64 < m) = false := decide_eq_false (by omega)
  rw [hf] at HF
  have HD := Lib.hid hD
  have Hn := Lib.hid hn
  have H40 : Hid (l.length ≤ 40 ∧ ∀ i (hi : i < l.length), l[i].data.length ≤ 600) := ⟨h40, h600⟩
  have HPl : Hid (∀ i, i ≤ l.length → (playsD (Dk.blank m) l i).load ≤ 80) := fun i hi => by
    have := plays_load (Dk.blank m) l i hi
    rw [blank_load] at this
    omega
  have hn40 : n ≤ 40 := by omega
  clear hD hn hf h40 h600 h1 h2
  go_enter Try.func3, Try.ntmps3
  go_wp2_with (first
    | (go_at_call 8; (with_reducible refine HF.out.mono ?_); rintro e w2 ⟨rfl, hb2⟩)
    | (go_at_call 10; (with_reducible refine (HB.out _).mono ?_); rintro e w3 ⟨g, F0, rfl, hG⟩)
    | (go_at_call 11; (with_reducible refine (HR.out _).mono ?_); rintro e w4 ⟨q, G0, B0, rfl, hR⟩; have hT0 : Two [] w w4 g F0 (Dk.blank m) q G0 B0 (Dk.blank m) := Two.gives hb2 hG hR))
  go_loopw [9] (fun x wr => ∃ i : Nat, i ≤ n ∧ x = .int .i64 (i : Int) ∧ Hid (Did [] w g q (playsD (Dk.blank m) l i) wr)) (fun x _ => n - (intOf x).toNat)
  case atStart => exact ⟨0, by omega, rfl, F0, G0, B0, hT0⟩
  case round =>
    clear hT0 hG hR hb2
    obtain ⟨i, hi, rfl, hH⟩ := hrel
    by_cases hlt : i < n
    · have hi2 : i < l.length := by have := Hn.out; omega
      obtain ⟨b, off, rfl, hbb, hcc⟩ := HD.out (by omega)
      obtain ⟨dA, dc, mA, mc, hV, k0, k1, k2, k3, k4⟩ := hcc i hi2
      obtain ⟨F, G, B, hT⟩ := hH.out
      obtain ⟨kd, hkd⟩ : ∃ x, x = l[i].kind := ⟨_, rfl⟩
      obtain ⟨nn, hnn⟩ : ∃ x, x = l[i].n := ⟨_, rfl⟩
      obtain ⟨dl, hdl⟩ : ∃ x, x = l[i].data.length := ⟨_, rfl⟩
      obtain ⟨od, hod⟩ : ∃ x, x = l[i].odd := ⟨_, rfl⟩
      obtain ⟨ml, hml⟩ : ∃ x, x = l[i].masks.length := ⟨_, rfl⟩
      obtain ⟨d', hd'⟩ : ∃ x, x = playsD (Dk.blank m) l (i + 1) := ⟨_, rfl⟩
      have HDo : Hid (∀ W, Two [] w W g F (playsD (Dk.blank m) l i) q G B (playsD (Dk.blank m) l i) → Calls Try.prog 12 #[.pointer (some ⟨g, 0, none⟩), .pointer (some ⟨q, 0, none⟩), .agg #[.int .i64 kd, .int .i64 nn, .slice dA dl dc, .bool od, .slice mA ml mc]] W fun e w' => e = .returned (.bool true) ∧ Did [] w g q d' w') := fun W hW => by
        rw [hkd, hnn, hdl, hod, hml, hd', plays_succ _ l i hi2]
        exact do_any hW (by have := HPl.out i (by omega); omega) l[i] dA mA dc mc hV (by have := H40.out.2 i hi2; omega)
      have HAl : Hid (∀ W F G B, Two [] w W g F d' q G B d' → Calls Try.prog 13 #[.pointer (some ⟨g, 0, none⟩), .pointer (some ⟨q, 0, none⟩)] W fun e w' => e = .returned (.bool true) ∧ Two [] w w' g F d' q G B d' ∧ Below W.heap.size W w') := fun W F G B hW => by
        refine alike_any hW ?_
        rw [hd']
        have := HPl.out (i + 1) (by omega); omega
      obtain ⟨rr, hrr⟩ : ∃ x : Int, x = (d'.reads : Int) := ⟨_, rfl⟩
      obtain ⟨ww, hww⟩ : ∃ x : Int, x = (d'.writes : Int) := ⟨_, rfl⟩
      obtain ⟨ff, hff⟩ : ∃ x : Int, x = (d'.flushes : Int) := ⟨_, rfl⟩
      have HSt : Hid (∀ W F G B, Two [] w W g F d' q G B d' → Calls Try.prog 14 #[.pointer (some ⟨g, 0, none⟩)] W fun e w' => e = .returned (.agg #[.int .i64 rr, .int .i64 ww, .int .i64 ff]) ∧ Below W.heap.size W w') := fun W F G B hW => by
        rw [hrr, hww, hff]
        exact stat_any hW.p.disk
      have HCt : Hid (∀ W F G B, Two [] w W g F d' q G B d' → W.cell? ⟨q, 4, none⟩ = some (.int .i64 rr) ∧ W.cell? ⟨q, 5, none⟩ = some (.int .i64 ww) ∧ W.cell? ⟨q, 6, none⟩ = some (.int .i64 ff)) := fun W F G B hW => by
        rw [hrr, hww, hff]
        exact hW.r.counts
      have HS : Hid (∀ W, Below w.heap.size w W → W.cell? ⟨b, off + i * 5, none⟩ = some (.int .i64 kd) ∧ W.cell? ⟨b, off + i * 5 + 1, none⟩ = some (.int .i64 nn) ∧ W.cell? ⟨b, off + i * 5 + 2, none⟩ = some (.slice dA dl dc) ∧ W.cell? ⟨b, off + i * 5 + 3, none⟩ = some (.bool od) ∧ W.cell? ⟨b, off + i * 5 + 4, none⟩ = some (.slice mA ml mc)) := fun W hb => by
        rw [hkd, hnn, hdl, hod, hml]
        exact ⟨(hb.cell (p := ⟨b, off + i * 5, none⟩) hbb).trans k0, (hb.cell (p := ⟨b, off + i * 5 + 1, none⟩) hbb).trans k1, (hb.cell (p := ⟨b, off + i * 5 + 2, none⟩) hbb).trans k2, (hb.cell (p := ⟨b, off + i * 5 + 3, none⟩) hbb).trans k3, (hb.cell (p := ⟨b, off + i * 5 + 4, none⟩) hbb).trans k4⟩
      have d0 : decide ((i : Int) < (n : Int)) = true := decide_eq_true (by omega)
      have d1 : decide (i < n) = true := decide_eq_true hlt
      have a36 := fun w' => Try.agg36 w'
      have s36 := fun w' => Try.size36 w'
      have a39 := fun w' => Try.agg39 w'
      have s39 := fun w' => Try.size39 w'
      have q39 := fun a b c w' => Try.statNeq a b c w'
      have HD' := Lib.hid hd'
      clear hcc k0 k1 k2 k3 k4 hV hkd hnn hdl hod hml hrr hww hff hd' hbb
      go_wp2
      have t0 : Two [] w wr.drew g F (playsD (Dk.blank m) l i) q G B (playsD (Dk.blank m) l i) := hT.more (Below.refl _ _).drew
      obtain ⟨v0, v1, v2, v3, v4⟩ := HS.out _ t0.p.below
      clear hT hH
      go_region_with (first
          | (go_at_call 12; (with_reducible refine (HDo.out _ t0).mono ?_); rintro e w1 ⟨rfl, F1, G1, B1, t1⟩)
          | (go_at_call 13; (with_reducible refine (HAl.out _ _ _ _ t1).mono ?_); rintro e w2 ⟨rfl, t2, k2⟩; obtain ⟨p4, p5, p6⟩ := HCt.out _ _ _ _ t2)
          | (go_at_call 14; (with_reducible refine (HSt.out _ _ _ _ t2).mono ?_); rintro e w3 ⟨rfl, k3⟩; have t3 := t2.more k3; obtain ⟨r4, r5, r6⟩ := HCt.out _ _ _ _ t3))
      all_goals first
        | (refine ⟨⟨i + 1, by omega, by go_num, F1, G1, B1, by rw [← HD'.out]; exact t3⟩, ?_⟩; simp [intOf]; omega)
        | (go_wp2; refine ⟨⟨i + 1, by omega, by go_num, F1, G1, B1, by rw [← HD'.out]; exact t3⟩, ?_⟩; simp [intOf]; omega)
    · have d0 : decide ((i : Int) < (n : Int)) = false := decide_eq_false (by omega)
      have d1 : decide (i < n) = false := decide_eq_false hlt
      go_wp2_with (first
        | (go_at_call 9; (with_reducible refine (HAw.out _).mono ?_); rintro e w3 ⟨rfl, hb3⟩))
      go_ret
      obtain ⟨F, G, B, hT⟩ := hH.out
      exact ⟨rfl, chain6 hT.p.below hb3⟩
theorem does_any6 (z : Int) (l : List Dd) (A : Option Addr) (c : Nat) (w : World) (hD : DL w w.heap.size A l) :
    Calls Try.prog 3 #[.int .i64 z, .slice A l.length c] w fun e w' => e = .returned (.bool true) ∧ Below w.heap.size w w' := by
  by_cases h : 64 < z
  · exact does_out z l A _ c w hD rfl (.inl h)
  · cases hf : fewL l with
    | false => exact does_out z l A _ c w hD rfl (.inr ⟨by omega, hf⟩)
    | true =>
      by_cases hm : z < 16
      · exact does_bad z l A _ c w hD rfl hm hf
      · obtain ⟨m, rfl⟩ : ∃ m : Nat, z = (m : Int) := ⟨z.toNat, by omega⟩
        exact does_in m l A _ c w hD rfl (by omega) (by omega) hf
set_option maxRecDepth 100000 in
theorem does_lifted (os : Os) (started : os.Started) (H : Type) (enc : TypeId × Value → H) :
    ReturnsInHanded {} Try.checked os 3 .any (Rows.diskDoesSpec.pre6 enc Try.prog Try.f3 Rows.diskDoesRow.domain false) (Rows.diskDoesSpec.post enc Try.prog Try.f3 false true false false) := by
  refine returnsInHanded_of_change_sized (C := Try.checked) Try.own started (by kernel_rfl) Try.func3
    (ChangeSpec.witness6 (enc := enc) (C := Try.checked) false ⟨#[], #[.int .i64 0, .slice none 0 0], []⟩ 8 (by kernel_rfl) (by kernel_rfl) (by kernel_rfl) (by kernel_rfl)) ?_
  intro W base args ds gs before hval0 hW hcnd hsz0 _
  have hval : ∀ (j : Nat) t v, Try.f3.params[j]? = some t → args[j]? = some v → Value.okWide Try.prog W .any base t v := hval0
  have hW' : DataW.Whole enc Try.prog Try.f3.params.toList Rows.diskDoesSpec.vars false W args.toList ds gs before := hW
  have hWk := hW'
  clear hsz0 hval0
  obtain ⟨p, q, hA, hV, rfl, hfz, hnd⟩ := hW'
  rw [Try.params3] at hA hval
  obtain ⟨v0, v1, d0, d1, p0, p1, rfl, rfl, rfl, h0, h1⟩ := trodAll_two hA
  obtain ⟨rfl, rfl⟩ := trodVars_none hV
  obtain ⟨z, rfl, rfl, rfl, wz⟩ := open_int Try.underlying3 (hval 0 3 v0 rfl rfl) h0
  obtain ⟨A, D, c, rfl, hD, _, _⟩ := open_dl (hval 1 22 v1 rfl rfl) h1
  refine (does_any6 z D A c W hD).mono fun e W' ⟨he, hb⟩ => ⟨_, he, ?_⟩
  exact law_post Try.laidOut hWk rfl rfl rfl rfl rfl Try.underlying4 (by kernel_rfl) hb
theorem does_holds : Rows.DiskDoesSaid :=
  OpenClaim.holds_of_wide 3 Try.f3 rfl rfl rfl rfl rfl rfl rfl ⟨rfl, rfl, rfl, rfl, rfl⟩ rfl rfl rfl rfl rfl (by kernel_rfl) Try.func3 (by kernel_rfl)
    (of_decide_eq_true (by kernel_rfl)) (by unfold Func.isWrapper; first | (rw [if_pos (by decide +kernel)]; kernel_rfl) | (rw [if_neg (by decide +kernel)]; exact ⟨rfl, rfl⟩))
    (fun os started H enc _ => does_lifted os started H enc)
end Go.Proofs.Ythaljnnkpfeooaa
