/- DiskClones returns true for every two lists of deeds, and leaves memory that was there as it was; nothing else is assumed beyond the statement itself. -/
import Derived.Test.YthaljnnkpfeooaaDiskClonesM
import Derived.Test.YthaljnnkpfeooaaDiskAlike
import Derived.Test.YthaljnnkpfeooaaDiskTears
set_option linter.unusedVariables false
namespace Go.Proofs.Ythaljnnkpfeooaa
open Go.ChangeShapes Go.WideShapes Go.ChangeAt Go.RowKit

set_option maxRecDepth 100000 in
set_option maxHeartbeats 2000000 in
theorem clones_out (l m : List Dd) (A1 A2 : Option Addr) (n1 c1 n2 c2 : Nat) (w : World) (hD1 : DL w w.heap.size A1 l) (hD2 : DL w w.heap.size A2 m) (hn1 : n1 = l.length) (hn2 : n2 = m.length)
    (h : fewL l = false ∨ (fewL l = true ∧ fewL m = false)) :
    Calls Try.prog 7 #[.slice A1 n1 c1, .slice A2 n2 c2] w fun e w' => e = .returned (.bool true) ∧ Below w.heap.size w w' := by
  have HF1 : Hid (∀ W, Below w.heap.size w W → Calls Try.prog 8 #[.slice A1 n1 c1] W fun e w' => e = .returned (.bool (fewL l)) ∧ Below W.heap.size W w') := fun W hb => few_any l A1 n1 c1 hb hD1 hn1
  have HF2 : Hid (∀ W, Below w.heap.size w W → Calls Try.prog 8 #[.slice A2 n2 c2] W fun e w' => e = .returned (.bool (fewL m)) ∧ Below W.heap.size W w') := fun W hb => few_any m A2 n2 c2 hb hD2 hn2
  have HAw := Lib.hid awake6_any
  have HB : Hid (∀ W, Calls Try.prog 10 #[.int .i64 16] W fun e w' => ∃ g F, e = .returned (.tuple #[.pointer (some ⟨g, 0, none⟩), .int .i64 0]) ∧ GivesDisk (Dk.blank 16) W w' g F) := fun W => blank_any 16 W (by omega) (by omega)
  have HR : Hid (∀ W, Calls Try.prog 11 #[.int .i64 16] W fun e w' => ∃ g G B, e = .returned (.tuple #[.pointer (some ⟨g, 0, none⟩), .int .i64 0]) ∧ GivesRef (Dk.blank 16) W w' g G B) := fun W => rblank_any 16 W (by omega) (by omega)
  have y0 := fun w' => Try.notFalse w'
  have y1 := fun w' => Try.notTrue w'
  have y2 := fun g w' => Try.dIsNil g w'
  clear hD1 hD2 hn1 hn2
  rcases h with h | ⟨h, h2⟩
  · rw [h] at HF1
    go_enter Try.func7, Try.ntmps7
    go_wp2_with (first
      | (go_at_call 10; (with_reducible refine (HB.out _).mono ?_); rintro e w1 ⟨g, F0, rfl, hG⟩; have b1 := hG.2.1)
      | (go_at_call 11; (with_reducible refine (HR.out _).mono ?_); rintro e w2 ⟨q, G0, B0, rfl, hR⟩; have b2 := chain6 b1 hR.2.1)
      | (go_at_call 8; (with_reducible refine (HF1.out _ b2).mono ?_); rintro e w3 ⟨rfl, hb3⟩; have b3 := chain6 b2 hb3)
      | (go_at_call 9; (with_reducible refine (HAw.out _).mono ?_); rintro e w5 ⟨rfl, hb5⟩))
    go_ret
    exact ⟨rfl, chain6 b3 hb5⟩
  · rw [h] at HF1
    rw [h2] at HF2
    go_enter Try.func7, Try.ntmps7
    go_wp2_with (first
      | (go_at_call 10; (with_reducible refine (HB.out _).mono ?_); rintro e w1 ⟨g, F0, rfl, hG⟩; have b1 := hG.2.1)
      | (go_at_call 11; (with_reducible refine (HR.out _).mono ?_); rintro e w2 ⟨q, G0, B0, rfl, hR⟩; have b2 := chain6 b1 hR.2.1)
      | (go_at_call 8; (with_reducible refine (HF1.out _ b2).mono ?_); rintro e w3 ⟨rfl, hb3⟩; have b3 := chain6 b2 hb3)
      | (go_at_call 8; (with_reducible refine (HF2.out _ b3).mono ?_); rintro e w4 ⟨rfl, hb4⟩; have b4 := chain6 b3 hb4)
      | (go_at_call 9; (with_reducible refine (HAw.out _).mono ?_); rintro e w5 ⟨rfl, hb5⟩))
    go_ret
    exact ⟨rfl, chain6 b4 hb5⟩

set_option maxRecDepth 100000 in
set_option maxHeartbeats 4000000 in
theorem clones_in (l m : List Dd) (A1 A2 : Option Addr) (n1 c1 n2 c2 : Nat) (w : World) (hD1 : DL w w.heap.size A1 l) (hD2 : DL w w.heap.size A2 m) (hn1 : n1 = l.length) (hn2 : n2 = m.length) (h1 : fewL l = true) (h2 : fewL m = true) :
    Calls Try.prog 7 #[.slice A1 n1 c1, .slice A2 n2 c2] w fun e w' => e = .returned (.bool true) ∧ Below w.heap.size w w' := by
  have HF1 : Hid (∀ W, Below w.heap.size w W → Calls Try.prog 8 #[.slice A1 n1 c1] W fun e w' => e = .returned (.bool true) ∧ Below W.heap.size W w') := fun W hb => by rw [← h1]; exact few_any l A1 n1 c1 hb hD1 hn1
  have HF2 : Hid (∀ W, Below w.heap.size w W → Calls Try.prog 8 #[.slice A2 n2 c2] W fun e w' => e = .returned (.bool true) ∧ Below W.heap.size W w') := fun W hb => by rw [← h2]; exact few_any m A2 n2 c2 hb hD2 hn2
  have HAw := Lib.hid awake6_any
  have HB : Hid (∀ W, Calls Try.prog 10 #[.int .i64 16] W fun e w' => ∃ g F, e = .returned (.tuple #[.pointer (some ⟨g, 0, none⟩), .int .i64 0]) ∧ GivesDisk (Dk.blank 16) W w' g F) := fun W => blank_any 16 W (by omega) (by omega)
  have HR : Hid (∀ W, Calls Try.prog 11 #[.int .i64 16] W fun e w' => ∃ g G B, e = .returned (.tuple #[.pointer (some ⟨g, 0, none⟩), .int .i64 0]) ∧ GivesRef (Dk.blank 16) W w' g G B) := fun W => rblank_any 16 W (by omega) (by omega)
  have y0 := fun w' => Try.notFalse w'
  have y1 := fun w' => Try.notTrue w'
  have y2 := fun g w' => Try.dIsNil g w'
  have y3 := fun w' => Try.dNilIs w'
  have y4 := fun a b c w' => Try.statNeq a b c w'
  have y5 := fun a b c w' => Try.statEql a b c w'
  have y6 := fun w' => Try.statZero w'
  obtain ⟨h140, h1600⟩ := fewL_all h1
  obtain ⟨h240, h2600⟩ := fewL_all h2
  have H1 : Hid (l.length ≤ 40 ∧ ∀ i (hi : i < l.length), l[i].data.length ≤ 600) := ⟨h140, h1600⟩
  have H2 : Hid (m.length ≤ 40 ∧ ∀ i (hi : i < m.length), m[i].data.length ≤ 600) := ⟨h240, h2600⟩
  have HPl : Hid (∀ i, i ≤ l.length → (playsD (Dk.blank 16) l i).load ≤ 80) := fun i hi => by
    have := plays_load (Dk.blank 16) l i hi
    rw [blank_load] at this
    omega
  have HPm : Hid (∀ D i, i ≤ m.length → (playsD D m i).load ≤ D.load + 80) := fun D i hi => by
    have := plays_load D m i hi
    omega
  have HD1 := Lib.hid hD1
  have HD2 := Lib.hid hD2
  have Hn1 := Lib.hid hn1
  have Hn2 := Lib.hid hn2
  have hn140 : n1 ≤ 40 := by omega
  have hn240 : n2 ≤ 40 := by omega
  clear hD1 hD2 hn1 hn2 h1 h2 h140 h1600 h240 h2600
  go_enter Try.func7, Try.ntmps7
  go_wp2_with (first
    | (go_at_call 10; (with_reducible refine (HB.out _).mono ?_); rintro e w1 ⟨g, F0, rfl, hG⟩)
    | (go_at_call 11; (with_reducible refine (HR.out _).mono ?_); rintro e w2 ⟨q, G0, B0, rfl, hR⟩; have hT0 : Two [] w w2 g F0 (Dk.blank 16) q G0 B0 (Dk.blank 16) := Two.gives (Below.refl _ _) hG hR)
    | (go_at_call 8; (with_reducible refine (HF1.out _ hT0.p.below).mono ?_); rintro e w3 ⟨rfl, hb3⟩; have hT1 := hT0.more hb3)
    | (go_at_call 8; (with_reducible refine (HF2.out _ hT1.p.below).mono ?_); rintro e w4 ⟨rfl, hb4⟩; have hT2 := hT1.more hb4))
  go_loopw [9] (fun x wr => ∃ i : Nat, i ≤ n1 ∧ x = .int .i64 (i : Int) ∧ Hid (Did [] w g q (playsD (Dk.blank 16) l i) wr)) (fun x _ => n1 - (intOf x).toNat)
  case atStart => exact ⟨0, by omega, rfl, F0, G0, B0, hT2⟩
  case round =>
    clear hT0 hT1 hT2 hG hR hb3 hb4
    obtain ⟨i, hi, rfl, hH⟩ := hrel
    by_cases hlt : i < n1
    · have hi2 : i < l.length := by have := Hn1.out; omega
      obtain ⟨b, off, rfl, hbb, hcc⟩ := HD1.out (by omega)
      obtain ⟨dA, dc, mA, mc, hV, k0, k1, k2, k3, k4⟩ := hcc i hi2
      obtain ⟨kd, hkd⟩ : ∃ x, x = l[i].kind := ⟨_, rfl⟩
      obtain ⟨nn, hnn⟩ : ∃ x, x = l[i].n := ⟨_, rfl⟩
      obtain ⟨dl, hdl⟩ : ∃ x, x = l[i].data.length := ⟨_, rfl⟩
      obtain ⟨od, hod⟩ : ∃ x, x = l[i].odd := ⟨_, rfl⟩
      obtain ⟨ml, hml⟩ : ∃ x, x = l[i].masks.length := ⟨_, rfl⟩
      obtain ⟨F, G, B, hT⟩ := hH.out
      obtain ⟨d', hd'⟩ : ∃ x, x = playsD (Dk.blank 16) l (i + 1) := ⟨_, rfl⟩
      have HDo : Hid (Calls Try.prog 12 #[.pointer (some ⟨g, 0, none⟩), .pointer (some ⟨q, 0, none⟩), .agg #[.int .i64 kd, .int .i64 nn, .slice dA dl dc, .bool od, .slice mA ml mc]] wr fun e w' => e = .returned (.bool true) ∧ Did [] w g q d' w') := by
        rw [hkd, hnn, hdl, hod, hml, hd', plays_succ _ l i hi2]
        exact do_any hT (by have := HPl.out i (by omega); omega) l[i] dA mA dc mc hV (by have := H1.out.2 i hi2; omega)
      have hb := hT.p.below
      have v0 : wr.cell? ⟨b, off + i * 5, none⟩ = some (.int .i64 kd) := by rw [hkd]; exact (hb.cell (p := ⟨b, off + i * 5, none⟩) hbb).trans k0
      have v1 : wr.cell? ⟨b, off + i * 5 + 1, none⟩ = some (.int .i64 nn) := by rw [hnn]; exact (hb.cell (p := ⟨b, off + i * 5 + 1, none⟩) hbb).trans k1
      have v2 : wr.cell? ⟨b, off + i * 5 + 2, none⟩ = some (.slice dA dl dc) := by rw [hdl]; exact (hb.cell (p := ⟨b, off + i * 5 + 2, none⟩) hbb).trans k2
      have v3 : wr.cell? ⟨b, off + i * 5 + 3, none⟩ = some (.bool od) := by rw [hod]; exact (hb.cell (p := ⟨b, off + i * 5 + 3, none⟩) hbb).trans k3
      have v4 : wr.cell? ⟨b, off + i * 5 + 4, none⟩ = some (.slice mA ml mc) := by rw [hml]; exact (hb.cell (p := ⟨b, off + i * 5 + 4, none⟩) hbb).trans k4
      have a36 := fun w' => Try.agg36 w'
      have s36 := fun w' => Try.size36 w'
      have d0 : decide ((i : Int) < (n1 : Int)) = true := decide_eq_true (by omega)
      have d1 : decide (i < n1) = true := decide_eq_true hlt
      have HD' := Lib.hid hd'
      clear hcc k0 k1 k2 k3 k4 hV hkd hnn hdl hod hml hd' hbb hb hT hH
      go_wp2_with (go_at_call 12; (with_reducible refine HDo.out.mono ?_); rintro e w1 ⟨rfl, t1⟩)
      refine ⟨⟨i + 1, by omega, by go_num, by rw [← HD'.out]; exact t1⟩, ?_⟩
      simp [intOf]; omega
    · have d0 : decide ((i : Int) < (n1 : Int)) = false := decide_eq_false (by omega)
      have d1 : decide (i < n1) = false := decide_eq_false hlt
      obtain ⟨F, G, B, hT⟩ := hH.out
      obtain ⟨D, hDD⟩ : ∃ x, x = playsD (Dk.blank 16) l i := ⟨_, rfl⟩
      have hload : D.load ≤ 80 := by rw [hDD]; exact HPl.out i (by have := Hn1.out; omega)
      rw [← hDD] at hT
      obtain ⟨wo, hwo⟩ : ∃ wo : World, wo = wr := ⟨_, rfl⟩
      subst hwo
      have HT := Lib.hid hT
      have HLo := Lib.hid hload
      have hbo : Below w.heap.size w wo := hT.p.below
      have HBo := Lib.hid hbo
      have HC1 : Hid (Calls Try.prog 25 #[.pointer (some ⟨g, 0, none⟩)] wo fun e w' => ∃ c F2, e = .returned (.pointer (some ⟨c, 0, none⟩)) ∧ GivesDisk D wo w' c F2) := pclone_any hT.p.disk (by omega)
      have HC2 : Hid (∀ W, Below wo.heap.size wo W → Calls Try.prog 26 #[.pointer (some ⟨q, 0, none⟩)] W fun e w' => ∃ y G2, e = .returned (.pointer (some ⟨y, 0, none⟩)) ∧ GivesCl D W w' y G2 B) := fun W hb => rclone_any (hT.r.below hb) (by omega)
      have HBl : Hid (∀ k, B k → k < wo.heap.size) := hT.r.blt
      obtain ⟨rr, hrr⟩ : ∃ x : Int, x = (D.reads : Int) := ⟨_, rfl⟩
      obtain ⟨ww, hww⟩ : ∃ x : Int, x = (D.writes : Int) := ⟨_, rfl⟩
      obtain ⟨ff, hff⟩ : ∃ x : Int, x = (D.flushes : Int) := ⟨_, rfl⟩
      have HSt : Hid (∀ W g F, PDisk W g F D → Calls Try.prog 14 #[.pointer (some ⟨g, 0, none⟩)] W fun e w' => e = .returned (.agg #[.int .i64 rr, .int .i64 ww, .int .i64 ff]) ∧ Below W.heap.size W w') := fun W g F hW => by
        rw [hrr, hww, hff]
        exact stat_any hW
      have HPo : Hid (∀ W, Below wo.heap.size wo W → PDisk W g F D) := fun W hb => hT.p.disk.below hb
      have HAo : Hid (∀ W, Below wo.heap.size wo W → Calls Try.prog 13 #[.pointer (some ⟨g, 0, none⟩), .pointer (some ⟨q, 0, none⟩)] W fun e w' => e = .returned (.bool true) ∧ Below W.heap.size W w') := fun W hb =>
        (alike_any (hT.more hb) (by omega)).mono fun e w' hh => ⟨hh.1, hh.2.2⟩
      clear hrr hww hff hT hH hDD hbo hload
      go_wp2_with (first
        | (go_at_call 25; (with_reducible refine HC1.out.mono ?_); rintro e w5 ⟨c, F2, rfl, hP5⟩; have b5 := hP5.2.1)
        | (go_at_call 26; (with_reducible refine (HC2.out _ b5).mono ?_); rintro e w6 ⟨y, G2, rfl, hR6⟩; have hT6 : Two [] wo w6 c F2 D y G2 B D := Two.cloned HBl.out hP5 hR6; have p6 := hT6.p.disk)
        | (go_at_call 14; (with_reducible refine (HSt.out _ _ _ p6).mono ?_); rintro e w7 ⟨rfl, hb7⟩; have hT7 := hT6.more hb7; have p7 := HPo.out _ hT7.p.below)
        | (go_at_call 14; (with_reducible refine (HSt.out _ _ _ p7).mono ?_); rintro e w8 ⟨rfl, hb8⟩; have hT8 := hT7.more hb8))
      go_loopw [12] (fun x wr => ∃ j : Nat, j ≤ n2 ∧ x = .int .i64 (j : Int) ∧ Hid (Did [] wo c y (playsD D m j) wr)) (fun x _ => n2 - (intOf x).toNat)
      case atStart => exact ⟨0, by omega, rfl, F2, G2, B, hT8⟩
      case round =>
        clear hP5 hR6 hT6 hb7 hT7 hb8 hT8 b5 p6 p7
        obtain ⟨j, hj, rfl, hH⟩ := hrel
        by_cases hlt2 : j < n2
        · have hi2 : j < m.length := by have := Hn2.out; omega
          obtain ⟨b, off, rfl, hbb, hcc⟩ := HD2.out (by omega)
          obtain ⟨dA, dc, mA, mc, hV, k0, k1, k2, k3, k4⟩ := hcc j hi2
          obtain ⟨kd, hkd⟩ : ∃ x, x = m[j].kind := ⟨_, rfl⟩
          obtain ⟨nn, hnn⟩ : ∃ x, x = m[j].n := ⟨_, rfl⟩
          obtain ⟨dl, hdl⟩ : ∃ x, x = m[j].data.length := ⟨_, rfl⟩
          obtain ⟨od, hod⟩ : ∃ x, x = m[j].odd := ⟨_, rfl⟩
          obtain ⟨ml, hml⟩ : ∃ x, x = m[j].masks.length := ⟨_, rfl⟩
          obtain ⟨F3, G3, B3, hT⟩ := hH.out
          obtain ⟨d', hd'⟩ : ∃ x, x = playsD D m (j + 1) := ⟨_, rfl⟩
          have HDo : Hid (Calls Try.prog 12 #[.pointer (some ⟨c, 0, none⟩), .pointer (some ⟨y, 0, none⟩), .agg #[.int .i64 kd, .int .i64 nn, .slice dA dl dc, .bool od, .slice mA ml mc]] wr fun e w' => e = .returned (.bool true) ∧ Did [] wo c y d' w') := by
            rw [hkd, hnn, hdl, hod, hml, hd', plays_succ _ m j hi2]
            exact do_any hT (by have := HPm.out D j (by omega); have := HLo.out; omega) m[j] dA mA dc mc (hV.up HBo.out) (by have := H2.out.2 j hi2; omega)
          have hb := HBo.out.trans (hT.p.below.mono HBo.out.size)
          have v0 : wr.cell? ⟨b, off + j * 5, none⟩ = some (.int .i64 kd) := by rw [hkd]; exact (hb.cell (p := ⟨b, off + j * 5, none⟩) hbb).trans k0
          have v1 : wr.cell? ⟨b, off + j * 5 + 1, none⟩ = some (.int .i64 nn) := by rw [hnn]; exact (hb.cell (p := ⟨b, off + j * 5 + 1, none⟩) hbb).trans k1
          have v2 : wr.cell? ⟨b, off + j * 5 + 2, none⟩ = some (.slice dA dl dc) := by rw [hdl]; exact (hb.cell (p := ⟨b, off + j * 5 + 2, none⟩) hbb).trans k2
          have v3 : wr.cell? ⟨b, off + j * 5 + 3, none⟩ = some (.bool od) := by rw [hod]; exact (hb.cell (p := ⟨b, off + j * 5 + 3, none⟩) hbb).trans k3
          have v4 : wr.cell? ⟨b, off + j * 5 + 4, none⟩ = some (.slice mA ml mc) := by rw [hml]; exact (hb.cell (p := ⟨b, off + j * 5 + 4, none⟩) hbb).trans k4
          have a36 := fun w' => Try.agg36 w'
          have s36 := fun w' => Try.size36 w'
          have d0 : decide ((j : Int) < (n2 : Int)) = true := decide_eq_true (by omega)
          have d1 : decide (j < n2) = true := decide_eq_true hlt2
          have HD' := Lib.hid hd'
          clear hcc k0 k1 k2 k3 k4 hV hkd hnn hdl hod hml hd' hbb hb hT hH
          go_wp2_with (go_at_call 12; (with_reducible refine HDo.out.mono ?_); rintro e w9 ⟨rfl, t9⟩)
          refine ⟨⟨j + 1, by omega, by go_num, by rw [← HD'.out]; exact t9⟩, ?_⟩
          simp [intOf]; omega
        · have d0 : decide ((j : Int) < (n2 : Int)) = false := decide_eq_false (by omega)
          have d1 : decide (j < n2) = false := decide_eq_false hlt2
          obtain ⟨F3, G3, B3, hT⟩ := hH.out
          have HAl : Hid (Calls Try.prog 13 #[.pointer (some ⟨c, 0, none⟩), .pointer (some ⟨y, 0, none⟩)] wr fun e w' => e = .returned (.bool true) ∧ Below wo.heap.size wo w') :=
            (alike_any hT (by have := HPm.out D j (by have := Hn2.out; omega); have := HLo.out; omega)).mono fun e w' hh => ⟨hh.1, hh.2.1.p.below⟩
          have N1 := Lib.hid crash_none
          have N2 := Lib.hid read_none
          have N3 := Lib.hid write_none
          have N4 := Lib.hid flush_none
          have N5 := Lib.hid stop_none
          have N6 := Lib.hid off_none
          have N7 := Lib.hid blocks_none
          have N8 := Lib.hid waits_none
          have N9 := Lib.hid image_none
          have Na := Lib.hid safe_none
          have Nb := Lib.hid stat_none
          have Nc := Lib.hid pclone_none
          clear hT hH
          go_wp2_with (first
            | (go_at_call 20; (with_reducible refine (N1.out _ _).mono ?_); rintro e wa ⟨rfl, rfl⟩)
            | (go_at_call 19; (with_reducible refine (N2.out _ _).mono ?_); rintro e wa ⟨rfl, rfl⟩)
            | (go_at_call 13; (with_reducible refine HAl.out.mono ?_); rintro e wb ⟨rfl, hbb⟩)
            | (go_at_call 13; (with_reducible refine (HAo.out _ hbb).mono ?_); rintro e wc ⟨rfl, hbc⟩; have hbc := chain6 hbb hbc)
            | (go_at_call 23; (with_reducible refine (N3.out _ _ _).mono ?_); rintro e wa ⟨rfl, rfl⟩)
            | (go_at_call 18; (with_reducible refine (N4.out _).mono ?_); rintro e wa ⟨rfl, rfl⟩)
            | (go_at_call 27; (with_reducible refine (N5.out _ _).mono ?_); rintro e wa ⟨rfl, rfl⟩)
            | (go_at_call 21; (with_reducible refine (N6.out _).mono ?_); rintro e wa ⟨rfl, rfl⟩)
            | (go_at_call 28; (with_reducible refine (N7.out _).mono ?_); rintro e wa ⟨rfl, rfl⟩)
            | (go_at_call 22; (with_reducible refine (N8.out _).mono ?_); rintro e wa ⟨rfl, rfl⟩)
            | (go_at_call 29; (with_reducible refine (N9.out _).mono ?_); rintro e wa ⟨rfl, rfl⟩)
            | (go_at_call 17; (with_reducible refine (Na.out _).mono ?_); rintro e wa ⟨rfl, rfl⟩)
            | (go_at_call 14; (with_reducible refine (Nb.out _).mono ?_); rintro e wd ⟨rfl, hbd⟩; have hbd := chain6 hbc hbd)
            | (go_at_call 25; (with_reducible refine (Nc.out _).mono ?_); rintro e wa ⟨rfl, rfl⟩)
            | (go_at_call 9; (with_reducible refine (HAw.out _).mono ?_); rintro e we ⟨rfl, hbe⟩))
          go_ret
          exact ⟨rfl, HBo.out.trans ((chain6 hbd hbe).mono HBo.out.size)⟩
theorem clones_any6 (l m : List Dd) (A1 A2 : Option Addr) (c1 c2 : Nat) (w : World) (hD1 : DL w w.heap.size A1 l) (hD2 : DL w w.heap.size A2 m) :
    Calls Try.prog 7 #[.slice A1 l.length c1, .slice A2 m.length c2] w fun e w' => e = .returned (.bool true) ∧ Below w.heap.size w w' := by
  cases h1 : fewL l with
  | false => exact clones_out l m A1 A2 _ c1 _ c2 w hD1 hD2 rfl rfl (.inl h1)
  | true =>
    cases h2 : fewL m with
    | false => exact clones_out l m A1 A2 _ c1 _ c2 w hD1 hD2 rfl rfl (.inr ⟨h1, h2⟩)
    | true => exact clones_in l m A1 A2 _ c1 _ c2 w hD1 hD2 rfl rfl h1 h2
set_option maxRecDepth 100000 in
theorem clones_lifted (os : Os) (started : os.Started) (H : Type) (enc : TypeId × Value → H) :
    ReturnsInHanded {} Try.checked os 7 .any (Rows.diskClonesSpec.pre6 enc Try.prog Try.f7 Rows.diskClonesRow.domain false) (Rows.diskClonesSpec.post enc Try.prog Try.f7 false true false false) := by
  refine returnsInHanded_of_change_sized (C := Try.checked) Try.own started (by kernel_rfl) Try.func7
    (ChangeSpec.witness6 (enc := enc) (C := Try.checked) false ⟨#[], #[.slice none 0 0, .slice none 0 0], []⟩ 8 (by kernel_rfl) (by kernel_rfl) (by kernel_rfl) (by kernel_rfl)) ?_
  intro W base args ds gs before hval0 hW hcnd hsz0 _
  have hval : ∀ (j : Nat) t v, Try.f7.params[j]? = some t → args[j]? = some v → Value.okWide Try.prog W .any base t v := hval0
  have hW' : DataW.Whole enc Try.prog Try.f7.params.toList Rows.diskClonesSpec.vars false W args.toList ds gs before := hW
  have hWk := hW'
  clear hsz0 hval0
  obtain ⟨p, q, hA, hV, rfl, hfz, hnd⟩ := hW'
  rw [Try.params7] at hA hval
  obtain ⟨v0, v1, d0, d1, p0, p1, rfl, rfl, rfl, h0, h1⟩ := trodAll_two hA
  obtain ⟨rfl, rfl⟩ := trodVars_none hV
  obtain ⟨A1, D1, c1, rfl, hD1, _, _⟩ := open_dl (hval 0 22 v0 rfl rfl) h0
  obtain ⟨A2, D2, c2, rfl, hD2, _, _⟩ := open_dl (hval 1 22 v1 rfl rfl) h1
  refine (clones_any6 D1 D2 A1 A2 c1 c2 W hD1 hD2).mono fun e W' ⟨he, hb⟩ => ⟨_, he, ?_⟩
  exact law_post Try.laidOut hWk rfl rfl rfl rfl rfl Try.underlying4 (by kernel_rfl) hb
theorem clones_holds : Rows.DiskClonesSaid :=
  OpenClaim.holds_of_wide 7 Try.f7 rfl rfl rfl rfl rfl rfl rfl ⟨rfl, rfl, rfl, rfl, rfl⟩ rfl rfl rfl rfl rfl (by kernel_rfl) Try.func7 (by kernel_rfl)
    (of_decide_eq_true (by kernel_rfl)) (by unfold Func.isWrapper; first | (rw [if_pos (by decide +kernel)]; kernel_rfl) | (rw [if_neg (by decide +kernel)]; exact ⟨rfl, rfl⟩))
    (fun os started H enc _ => clones_lifted os started H enc)
end Go.Proofs.Ythaljnnkpfeooaa
