/- DiskSafe returns true for whatever deeds, block and masks, and leaves memory that was there as it was; nothing else is assumed beyond the statement itself. -/
import Derived.Test.YthaljnnkpfeooaaDiskSafeM
set_option linter.unusedVariables false
namespace Go.Proofs.Ythaljnnkpfeooaa
open Go.ChangeShapes Go.WideShapes Go.ChangeAt Go.RowKit

theorem read_same (d : Dk) (i : Int) : (d.read i).1.off = d.off ∧ (d.read i).1.waits = d.waits := by
  unfold Dk.read
  split
  · exact ⟨rfl, rfl⟩
  · split <;> exact ⟨rfl, rfl⟩
set_option maxRecDepth 100000 in
set_option maxHeartbeats 2000000 in
theorem safe_out (l m : List Dd) (A1 A2 : Option Addr) (n1 c1 n2 c2 : Nat) (z : Int) (A3 : Option Addr) (n3 c3 : Nat) (w : World) (hD1 : DL w w.heap.size A1 l) (hD2 : DL w w.heap.size A2 m) (hn1 : n1 = l.length) (hn2 : n2 = m.length)
    (h : fewL l = false ∨ (fewL l = true ∧ fewL m = false) ∨ (fewL l = true ∧ fewL m = true ∧ z < 0) ∨ (fewL l = true ∧ fewL m = true ∧ ¬ z < 0 ∧ 15 < z)) :
    Calls Try.prog 5 #[.agg #[.slice A1 n1 c1, .slice A2 n2 c2, .int .i64 z, .slice A3 n3 c3]] w fun e w' => e = .returned (.bool true) ∧ Below w.heap.size w w' := by
  have HF1 : Hid (∀ W, Below w.heap.size w W → Calls Try.prog 8 #[.slice A1 n1 c1] W fun e w' => e = .returned (.bool (fewL l)) ∧ Below W.heap.size W w') := fun W hb => few_any l A1 n1 c1 hb hD1 hn1
  have HF2 : Hid (∀ W, Below w.heap.size w W → Calls Try.prog 8 #[.slice A2 n2 c2] W fun e w' => e = .returned (.bool (fewL m)) ∧ Below W.heap.size W w') := fun W hb => few_any m A2 n2 c2 hb hD2 hn2
  have HAw := Lib.hid awake6_any
  have y0 := fun w' => Try.notFalse w'
  have y1 := fun w' => Try.notTrue w'
  have hbb : Below w.heap.size w (w.alloc (.cells #[.slice A1 n1 c1, .slice A2 n2 c2, .int .i64 z, .slice A3 n3 c3] 51)) := (Below.refl _ _).alloc (Nat.le_refl _) _
  have HbN : Hid (∀ k, Below w.heap.size w ((w.alloc (.cells #[.slice A1 n1 c1, .slice A2 n2 c2, .int .i64 z, .slice A3 n3 c3] 51)).drewN k)) := fun k => ⟨hbb.os, hbb.tape, hbb.output, hbb.size, hbb.block⟩
  clear hD1 hD2 hn1 hn2 hbb
  rcases h with h | ⟨h, h2⟩ | ⟨h, h2, h3⟩ | ⟨h, h2, h3, h4⟩
  · rw [h] at HF1
    go_enter Try.func5, Try.ntmps5
    go_wp2
    go_quiet (fail)
    have b0 := HbN.out nq
    go_wp2_with (first
      | (go_at_call 8; (with_reducible refine (HF1.out _ b0).mono ?_); rintro e w1 ⟨rfl, hb1⟩; have b1 := chain6 b0 hb1)
      | (go_at_call 8; (with_reducible refine (HF2.out _ b1).mono ?_); rintro e w2 ⟨rfl, hb2⟩; have b2 := chain6 b1 hb2)
      | (go_at_call 9; (with_reducible refine (HAw.out _).mono ?_); rintro e w3 ⟨rfl, hb3⟩))
    go_ret
    exact ⟨rfl, chain6 b1 hb3⟩
  · rw [h] at HF1
    rw [h2] at HF2
    go_enter Try.func5, Try.ntmps5
    go_wp2
    go_quiet (fail)
    have b0 := HbN.out nq
    go_wp2_with (first
      | (go_at_call 8; (with_reducible refine (HF1.out _ b0).mono ?_); rintro e w1 ⟨rfl, hb1⟩; have b1 := chain6 b0 hb1)
      | (go_at_call 8; (with_reducible refine (HF2.out _ b1).mono ?_); rintro e w2 ⟨rfl, hb2⟩; have b2 := chain6 b1 hb2)
      | (go_at_call 9; (with_reducible refine (HAw.out _).mono ?_); rintro e w3 ⟨rfl, hb3⟩))
    go_ret
    exact ⟨rfl, chain6 b2 hb3⟩
  · rw [h] at HF1
    rw [h2] at HF2
    have e1 : decide (z < 0) = true := decide_eq_true h3
    go_enter Try.func5, Try.ntmps5
    go_wp2
    go_quiet (fail)
    have b0 := HbN.out nq
    go_wp2_with (first
      | (go_at_call 8; (with_reducible refine (HF1.out _ b0).mono ?_); rintro e w1 ⟨rfl, hb1⟩; have b1 := chain6 b0 hb1)
      | (go_at_call 8; (with_reducible refine (HF2.out _ b1).mono ?_); rintro e w2 ⟨rfl, hb2⟩; have b2 := chain6 b1 hb2)
      | (go_at_call 9; (with_reducible refine (HAw.out _).mono ?_); rintro e w3 ⟨rfl, hb3⟩))
    go_ret
    exact ⟨rfl, chain6 b2 hb3⟩
  · rw [h] at HF1
    rw [h2] at HF2
    have e1 : decide (z < 0) = false := decide_eq_false h3
    have e2 : decide (z > 15) = true := decide_eq_true h4
    have e3 : decide (15 < z) = true := decide_eq_true h4
    go_enter Try.func5, Try.ntmps5
    go_wp2
    go_quiet (fail)
    have b0 := HbN.out nq
    go_wp2_with (first
      | (go_at_call 8; (with_reducible refine (HF1.out _ b0).mono ?_); rintro e w1 ⟨rfl, hb1⟩; have b1 := chain6 b0 hb1)
      | (go_at_call 8; (with_reducible refine (HF2.out _ b1).mono ?_); rintro e w2 ⟨rfl, hb2⟩; have b2 := chain6 b1 hb2)
      | (go_at_call 9; (with_reducible refine (HAw.out _).mono ?_); rintro e w3 ⟨rfl, hb3⟩))
    go_ret
    exact ⟨rfl, chain6 b2 hb3⟩
theorem SafeAt.up {w0 w' : World} {g q n : Nat} {A : Option Addr} {L : List UInt8} {m k : Nat} (h : SafeAt w0 g q n A L m w') (hk : m ≤ k) : SafeAt w0 g q n A L k w' := by
  obtain ⟨d, e, F, G, B, hT, hc, h1, h2⟩ := h
  exact ⟨d, e, F, G, B, hT, hc, by omega, by omega⟩
set_option maxRecDepth 100000 in
set_option maxHeartbeats 4000000 in
theorem safe_in (l m : List Dd) (A1 A2 A3 : Option Addr) (n1 c1 n2 c2 n3 c3 : Nat) (n : Nat) (Z : List Int) (w : World) (hD1 : DL w w.heap.size A1 l) (hD2 : DL w w.heap.size A2 m) (hM : RI w w.heap.size A3 Z) (hn1 : n1 = l.length) (hn2 : n2 = m.length) (hn3 : n3 = Z.length)
    (h1 : fewL l = true) (h2 : fewL m = true) (h3 : n ≤ 15) :
    Calls Try.prog 5 #[.agg #[.slice A1 n1 c1, .slice A2 n2 c2, .int .i64 (n : Int), .slice A3 n3 c3]] w fun e w' => e = .returned (.bool true) ∧ Below w.heap.size w w' := by
  have HF1 : Hid (∀ W, Below w.heap.size w W → Calls Try.prog 8 #[.slice A1 n1 c1] W fun e w' => e = .returned (.bool true) ∧ Below W.heap.size W w') := fun W hb => by rw [← h1]; exact few_any l A1 n1 c1 hb hD1 hn1
  have HF2 : Hid (∀ W, Below w.heap.size w W → Calls Try.prog 8 #[.slice A2 n2 c2] W fun e w' => e = .returned (.bool true) ∧ Below W.heap.size W w') := fun W hb => by rw [← h2]; exact few_any m A2 n2 c2 hb hD2 hn2
  have HAw := Lib.hid awake6_any
  have HB : Hid (∀ W, Calls Try.prog 10 #[.int .i64 16] W fun e w' => ∃ g F, e = .returned (.tuple #[.pointer (some ⟨g, 0, none⟩), .int .i64 0]) ∧ GivesDisk (Dk.blank 16) W w' g F) := fun W => blank_any 16 W (by omega) (by omega)
  have HR : Hid (∀ W, Calls Try.prog 11 #[.int .i64 16] W fun e w' => ∃ g G B, e = .returned (.tuple #[.pointer (some ⟨g, 0, none⟩), .int .i64 0]) ∧ GivesRef (Dk.blank 16) W w' g G B) := fun W => rblank_any 16 W (by omega) (by omega)
  have y0 := fun w' => Try.notFalse w'
  have y1 := fun w' => Try.notTrue w'
  have y2 := fun g w' => Try.dIsNil g w'
  have e1 : decide ((n : Int) < 0) = false := decide_eq_false (by omega)
  have e2 : decide ((n : Int) > 15) = false := decide_eq_false (by omega)
  have e3 : decide ((15 : Int) < (n : Int)) = false := decide_eq_false (by omega)
  have e4 : decide (15 < n) = false := decide_eq_false (by omega)
  obtain ⟨h140, h1600⟩ := fewL_all h1
  obtain ⟨h240, h2600⟩ := fewL_all h2
  have H1 : Hid (l.length ≤ 40 ∧ ∀ i (hi : i < l.length), l[i].data.length ≤ 600) := ⟨h140, h1600⟩
  have H2 : Hid (m.length ≤ 40 ∧ ∀ i (hi : i < m.length), m[i].data.length ≤ 600) := ⟨h240, h2600⟩
  have HPl : Hid (∀ i, i ≤ l.length → (playsD (Dk.blank 16) l i).load ≤ 80) := fun i hi => by
    have := plays_load (Dk.blank 16) l i hi
    rw [blank_load] at this
    omega
  have HD1 := Lib.hid hD1
  have HD2 := Lib.hid hD2
  have HM := Lib.hid hM
  have Hn1 := Lib.hid hn1
  have Hn2 := Lib.hid hn2
  have Hn3 := Lib.hid hn3
  have H3 : Hid (n ≤ 15 ∧ True) := ⟨h3, trivial⟩
  have hbb : Below w.heap.size w (w.alloc (.cells #[.slice A1 n1 c1, .slice A2 n2 c2, .int .i64 (n : Int), .slice A3 n3 c3] 51)) := (Below.refl _ _).alloc (Nat.le_refl _) _
  have HbN : Hid (∀ k, Below w.heap.size w ((w.alloc (.cells #[.slice A1 n1 c1, .slice A2 n2 c2, .int .i64 (n : Int), .slice A3 n3 c3] 51)).drewN k)) := fun k => ⟨hbb.os, hbb.tape, hbb.output, hbb.size, hbb.block⟩
  have hn140 : n1 ≤ 40 := by omega
  have hn240 : n2 ≤ 40 := by omega
  clear hD1 hD2 hM hn1 hn2 hn3 hbb h1 h2 h140 h1600 h240 h2600
  go_enter Try.func5, Try.ntmps5
  go_wp2
  go_quiet (fail)
  have b0 := HbN.out nq
  go_wp2_with (first
    | (go_at_call 8; (with_reducible refine (HF1.out _ b0).mono ?_); rintro e w1 ⟨rfl, hb1⟩; have b1 := chain6 b0 hb1)
    | (go_at_call 8; (with_reducible refine (HF2.out _ b1).mono ?_); rintro e w2 ⟨rfl, hb2⟩; have b2 := chain6 b1 hb2)
    | (go_at_call 10; (with_reducible refine (HB.out _).mono ?_); rintro e w3 ⟨g, F0, rfl, hG⟩)
    | (go_at_call 11; (with_reducible refine (HR.out _).mono ?_); rintro e w4 ⟨q, G0, B0, rfl, hR⟩; have hT0 : Two [] w w4 g F0 (Dk.blank 16) q G0 B0 (Dk.blank 16) := Two.gives b2 hG hR))
  go_loopw [11] (fun x wr => ∃ i : Nat, i ≤ n1 ∧ x = .int .i64 (i : Int) ∧ Hid (Did [] w g q (playsD (Dk.blank 16) l i) wr)) (fun x _ => n1 - (intOf x).toNat)
  case atStart => exact ⟨0, by omega, rfl, F0, G0, B0, hT0⟩
  case round =>
    have HFit : Hid (Dk.fit (Dk.blank 16)) := hT0.r.good.fit
    clear hT0 hG hR b0 b1 b2 hb1 hb2
    obtain ⟨i, hi, rfl, hH⟩ := hrel
    by_cases hlt : i < n1
    · have hi2 : i < l.length := by have := Hn1.out; omega
      obtain ⟨b, off, rfl, hbb, hcc⟩ := HD1.out (by omega)
      obtain ⟨dA, dc, mA, mc, hV, k0, k1, k2, k3, k4⟩ := hcc i hi2
      obtain ⟨kd, hkd⟩ : ∃ x, x = l[i].kind := ⟨_, rfl⟩
      obtain ⟨nn, hnn⟩ : ∃ x, x = l[i].n := ⟨_, rfl⟩
      obtain ⟨dl, hdl⟩ : ∃ x, x = l[i].data.length := ⟨_, rfl⟩
      obtain ⟨od, hod⟩ : ∃ x, x = l[i].odd := ⟨_, rfl⟩
      obtain ⟨ml, hml⟩ : ∃ x, x = l[i].masks.length := ⟨_, rfl⟩
      obtain ⟨F, G, B, hT⟩ := hH.out
      obtain ⟨d', hd'⟩ : ∃ x, x = playsD (Dk.blank 16) l (i + 1) := ⟨_, rfl⟩
      have HDo : Hid (Calls Try.prog 12 #[.pointer (some ⟨g, 0, none⟩), .pointer (some ⟨q, 0, none⟩), .agg #[.int .i64 kd, .int .i64 nn, .slice dA dl dc, .bool od, .slice mA ml mc]] wr fun e w' => e = .returned (.bool true) ∧ Did [] w g q d' w') := by
        rw [hkd, hnn, hdl, hod, hml, hd', plays_succ _ l i hi2]
        exact do_any hT (by have := HPl.out i (by omega); omega) l[i] dA mA dc mc hV (by have := H1.out.2 i hi2; omega)
      have hb := hT.p.below
      have v0 : wr.cell? ⟨b, off + i * 5, none⟩ = some (.int .i64 kd) := by rw [hkd]; exact (hb.cell (p := ⟨b, off + i * 5, none⟩) hbb).trans k0
      have v1 : wr.cell? ⟨b, off + i * 5 + 1, none⟩ = some (.int .i64 nn) := by rw [hnn]; exact (hb.cell (p := ⟨b, off + i * 5 + 1, none⟩) hbb).trans k1
      have v2 : wr.cell? ⟨b, off + i * 5 + 2, none⟩ = some (.slice dA dl dc) := by rw [hdl]; exact (hb.cell (p := ⟨b, off + i * 5 + 2, none⟩) hbb).trans k2
      have v3 : wr.cell? ⟨b, off + i * 5 + 3, none⟩ = some (.bool od) := by rw [hod]; exact (hb.cell (p := ⟨b, off + i * 5 + 3, none⟩) hbb).trans k3
      have v4 : wr.cell? ⟨b, off + i * 5 + 4, none⟩ = some (.slice mA ml mc) := by rw [hml]; exact (hb.cell (p := ⟨b, off + i * 5 + 4, none⟩) hbb).trans k4
      have a36 := fun w' => Try.agg36 w'
      have s36 := fun w' => Try.size36 w'
      have d0 : decide ((i : Int) < (n1 : Int)) = true := decide_eq_true (by omega)
      have d1 : decide (i < n1) = true := decide_eq_true hlt
      have HD' := Lib.hid hd'
      clear hcc k0 k1 k2 k3 k4 hV hkd hnn hdl hod hml hd' hbb hb hT hH
      go_wp2_with (go_at_call 12; (with_reducible refine HDo.out.mono ?_); rintro e w1 ⟨rfl, t1⟩)
      refine ⟨⟨i + 1, by omega, by go_num, by rw [← HD'.out]; exact t1⟩, ?_⟩
      simp [intOf]; omega
    · have d0 : decide ((i : Int) < (n1 : Int)) = false := decide_eq_false (by omega)
      have d1 : decide (i < n1) = false := decide_eq_false hlt
      obtain ⟨F, G, B, hT⟩ := hH.out
      have hil : i ≤ l.length := by have := Hn1.out; omega
      have hfit := plays_len HFit.out l i hil
      have hload := HPl.out i hil
      obtain ⟨D, hDD⟩ : ∃ x, x = playsD (Dk.blank 16) l i := ⟨_, rfl⟩
      rw [← hDD] at hT hfit hload
      have hlen : D.safe.length = 16 := hfit.2
      obtain ⟨r, hr⟩ : ∃ x, x = D.flush.2 := ⟨_, rfl⟩
      have HFl : Hid (Calls Try.prog 18 #[.pointer (some ⟨g, 0, none⟩)] wr fun e w' => e = .returned (.int .i64 r) ∧ Two [] w w' g F D.flush.1 q G B D) :=
        (flush_any hT.p.disk (by omega)).mono fun e w' hh => ⟨by rw [hr]; exact hh.1, hT.deeds hh.2⟩
      by_cases hr0 : r = 0
      · subst hr0
        have hon := flush_on hr.symm
        obtain ⟨L, hL⟩ : ∃ x, x = D.now n := ⟨_, rfl⟩
        have hcalm : Dk.calm n L D.flush.1 := by rw [hL]; exact Dk.calm_flush (by rw [hlen]; have := H3.out.1; omega) hr.symm
        obtain ⟨p, hp⟩ : ∃ x, x = L.length := ⟨_, rfl⟩
        have hrd := read_on hon hcalm.1
        rw [Dk.calm_now hcalm] at hrd
        have hfl := flush_load D
        have HP : Hid (p = L.length) := hp
        have HCalm : Hid (Dk.calm n L { D.flush.1 with reads := D.flush.1.reads + 1 } ∧ D.load ≤ 80 ∧ ({ D.flush.1 with reads := D.flush.1.reads + 1 } : Dk).load ≤ 83) := by
          refine ⟨hcalm, hload, ?_⟩
          have := read_load D.flush.1 (n : Int)
          rw [hrd] at this
          have h2 : ({ D.flush.1 with reads := D.flush.1.reads + 1 } : Dk).load ≤ D.flush.1.load + 1 := this
          omega
        have HRd : Hid (∀ W, Two [] w W g F D.flush.1 q G B D → Calls Try.prog 19 #[.pointer (some ⟨g, 0, none⟩), .int .i64 (n : Int)] W fun e w' => ∃ A c, e = .returned (.tuple #[.slice A p c, .int .i64 0]) ∧ Two [(A, L)] w w' g F { D.flush.1 with reads := D.flush.1.reads + 1 } q G B D) := fun W hW =>
          (read_any hW.p.disk (n : Int) (by omega)).mono fun e w' hh => by
            obtain ⟨A, c, he, ho, hd⟩ := hh
            rw [hrd] at he ho hd
            exact ⟨A, c, by rw [hp]; exact he, (hW.deeds hd).add (Kept.read ho hW.p.flt) (Kept.read ho hW.r.glt)⟩
        clear hr hon hcalm hrd hfl hfit hload hlen hL hp hT hH hDD
        go_wp2_with (first
          | (go_at_call 18; (with_reducible refine HFl.out.mono ?_); rintro e w5 ⟨rfl, hT5⟩)
          | (go_at_call 19; (with_reducible refine (HRd.out _ hT5).mono ?_); rintro e w6 ⟨A6, c6, rfl, hT6⟩; have HT6 := Lib.hid hT6; clear hT6 hT5))
        go_loopw [14] (fun x wr => ∃ j : Nat, j ≤ n2 ∧ x = .int .i64 (j : Int) ∧ Hid (SafeAt w g q n A6 L (100 + 2 * j) wr)) (fun x _ => n2 - (intOf x).toNat)
        case atStart => exact ⟨0, by omega, rfl, _, _, _, _, _, HT6.out, HCalm.out.1, by have := HCalm.out.2.2; omega, by have := HCalm.out.2.1; omega⟩
        case round =>
          obtain ⟨j, hj, rfl, hS⟩ := hrel
          by_cases hlt : j < n2
          · have hi2 : j < m.length := by have := Hn2.out; omega
            obtain ⟨b, off, rfl, hbb, hcc⟩ := HD2.out (by omega)
            obtain ⟨dA, dc, mA, mc, hV, k0, k1, k2, k3, k4⟩ := hcc j hi2
            obtain ⟨kd, hkd⟩ : ∃ x, x = m[j].kind := ⟨_, rfl⟩
            obtain ⟨nn, hnn⟩ : ∃ x, x = m[j].n := ⟨_, rfl⟩
            obtain ⟨dl, hdl⟩ : ∃ x, x = m[j].data.length := ⟨_, rfl⟩
            obtain ⟨od, hod⟩ : ∃ x, x = m[j].odd := ⟨_, rfl⟩
            obtain ⟨ml, hml⟩ : ∃ x, x = m[j].masks.length := ⟨_, rfl⟩
            obtain ⟨d, e, F, G, B, hT, hc, hl1, hl2⟩ := hS.out
            have hb := hT.p.below
            have v0 : wr.cell? ⟨b, off + j * 5, none⟩ = some (.int .i64 kd) := by rw [hkd]; exact (hb.cell (p := ⟨b, off + j * 5, none⟩) hbb).trans k0
            have v1 : wr.cell? ⟨b, off + j * 5 + 1, none⟩ = some (.int .i64 nn) := by rw [hnn]; exact (hb.cell (p := ⟨b, off + j * 5 + 1, none⟩) hbb).trans k1
            have v2 : wr.cell? ⟨b, off + j * 5 + 2, none⟩ = some (.slice dA dl dc) := by rw [hdl]; exact (hb.cell (p := ⟨b, off + j * 5 + 2, none⟩) hbb).trans k2
            have v3 : wr.cell? ⟨b, off + j * 5 + 3, none⟩ = some (.bool od) := by rw [hod]; exact (hb.cell (p := ⟨b, off + j * 5 + 3, none⟩) hbb).trans k3
            have v4 : wr.cell? ⟨b, off + j * 5 + 4, none⟩ = some (.slice mA ml mc) := by rw [hml]; exact (hb.cell (p := ⟨b, off + j * 5 + 4, none⟩) hbb).trans k4
            have a36 := fun w' => Try.agg36 w'
            have s36 := fun w' => Try.size36 w'
            have d0 : decide ((j : Int) < (n2 : Int)) = true := decide_eq_true (by omega)
            have d1 : decide (j < n2) = true := decide_eq_true hlt
            by_cases hw : m[j].kind = 2 ∧ m[j].n = (n : Int)
            · have hS' : Hid (SafeAt w g q n A6 L (100 + 2 * (j + 1)) wr) := hS.out.up (by omega)
              rw [← hkd, ← hnn] at hw
              rw [hw.1] at v0
              rw [hw.2] at v1
              clear hcc k0 k1 k2 k3 k4 hV hkd hnn hdl hod hml hbb hb hT hS hc hl1 hl2 hw
              go_wp2
              refine ⟨⟨j + 1, by omega, by go_num, hS'⟩, ?_⟩
              simp [intOf]; omega
            · have HDo : Hid (Calls Try.prog 12 #[.pointer (some ⟨g, 0, none⟩), .pointer (some ⟨q, 0, none⟩), .agg #[.int .i64 kd, .int .i64 nn, .slice dA dl dc, .bool od, .slice mA ml mc]] wr fun e w' => (∃ b, e = .returned (.bool b)) ∧ Hid (SafeAt w g q n A6 L (100 + 2 * (j + 1)) w')) := by
                rw [hkd, hnn, hdl, hod, hml]
                exact (do_loose hT (by omega) (by omega) m[j] dA mA dc mc hV (by have := H2.out.2 j hi2; omega)).mono fun e w' hh => ⟨hh.1, (SafeAt.step hh.2 hc hl1 hl2 hw).up (by omega)⟩
              by_cases hk2 : kd = 2
              · have hn2' : ¬ nn = (n : Int) := fun h => hw ⟨by rw [← hkd]; exact hk2, by rw [← hnn]; exact h⟩
                have z1 : (nn == (n : Int)) = false := by simpa using hn2'
                subst hk2
                clear hcc k0 k1 k2 k3 k4 hV hkd hnn hdl hod hml hbb hb hT hS hc hl1 hl2 hw
                go_wp2_with (go_at_call 12; (with_reducible refine HDo.out.mono ?_); rintro e w7 ⟨⟨b7, rfl⟩, t7⟩)
                refine ⟨⟨j + 1, by omega, by go_num, t7⟩, ?_⟩
                simp [intOf]; omega
              · have z2 : (kd == 2) = false := by simpa using hk2
                clear hcc k0 k1 k2 k3 k4 hV hkd hnn hdl hod hml hbb hb hT hS hc hl1 hl2 hw
                go_wp2_with (go_at_call 12; (with_reducible refine HDo.out.mono ?_); rintro e w7 ⟨⟨b7, rfl⟩, t7⟩)
                refine ⟨⟨j + 1, by omega, by go_num, t7⟩, ?_⟩
                simp [intOf]; omega
          · have d0 : decide ((j : Int) < (n2 : Int)) = false := decide_eq_false (by omega)
            have d1 : decide (j < n2) = false := decide_eq_false hlt
            obtain ⟨d, f, F, G, B, hT, hc, hl1, hl2⟩ := hS.out
            obtain ⟨x1, x2, x3⟩ := Dk.calm_crash hc Z
            obtain ⟨m1, m2, _⟩ := hT.masks HM.out
            obtain ⟨E, hE⟩ : ∃ x, x = ((d.crash Z).read (n : Int)).1 := ⟨_, rfl⟩
            have hEo : E.off = false := by rw [hE, (read_same _ _).1]; exact x1
            have hEw : E.waits.length = 0 := by rw [hE, (read_same _ _).2, x2]; rfl
            have HCr : Hid (Calls Try.prog 20 #[.pointer (some ⟨g, 0, none⟩), .slice A3 n3 c3] wr fun e w' => e = .returned (.tuple #[]) ∧ Two [(A6, L)] w w' g F (d.crash Z) q G B f) :=
              (crash_any hT.p.disk Z A3 n3 c3 Hn3.out m1 m2).mono fun e w' hh => ⟨hh.1, hT.deeds hh.2⟩
            have HRd2 : Hid (∀ W, Two [(A6, L)] w W g F (d.crash Z) q G B f → Calls Try.prog 19 #[.pointer (some ⟨g, 0, none⟩), .int .i64 (n : Int)] W fun e w' => ∃ A c, e = .returned (.tuple #[.slice A p c, .int .i64 0]) ∧ RB w' w'.heap.size A L ∧ Two [(A6, L)] w w' g F E q G B f) := fun W hW =>
              (read_any hW.p.disk (n : Int) (by have := crash_load d Z; omega)).mono fun e w' hh => by
                obtain ⟨A, c, he, ho, hd⟩ := hh
                rw [← hE] at hd
                rw [x3] at he ho
                exact ⟨A, c, by rw [HP.out]; exact he, own_rb ho, hW.deeds hd⟩
            have HOf : Hid (∀ W, Two [(A6, L)] w W g F E q G B f → Calls Try.prog 21 #[.pointer (some ⟨g, 0, none⟩)] W fun e w' => e = .returned (.bool false) ∧ W = w') := fun W hW => by rw [← hEo]; exact off_any hW.p.disk
            have HWa : Hid (∀ W, Two [(A6, L)] w W g F E q G B f → Calls Try.prog 22 #[.pointer (some ⟨g, 0, none⟩)] W fun e w' => e = .returned (.int .i64 0) ∧ W = w') := fun W hW => by
              have h := waits_any hW.p.disk
              rw [hEw] at h
              exact h
            clear hT hS hc hl1 hl2 x1 x2 x3 m1 m2 hE hEo hEw
            go_wp2_with (first
              | (go_at_call 20; (with_reducible refine HCr.out.mono ?_); rintro e' w8 ⟨rfl, hT8⟩)
              | (go_at_call 19; (with_reducible refine (HRd2.out _ hT8).mono ?_); rintro e' w9 ⟨A9, c9, rfl, r9, hT9⟩; have s9 := aw_str r9 p c9 HP.out; have s6 := aw_str (hT9.kp _ (List.mem_singleton.2 rfl)).1.1 p c6 HP.out)
              | (go_at_call 21; (with_reducible refine (HOf.out _ hT9).mono ?_); rintro e' wa ⟨rfl, rfl⟩)
              | (go_at_call 22; (with_reducible refine (HWa.out _ hT9).mono ?_); rintro e' wb ⟨rfl, rfl⟩)
              | (go_at_call 9; (with_reducible refine (HAw.out _).mono ?_); rintro e' wc ⟨rfl, hbc⟩))
            go_ret
            exact ⟨rfl, chain6 hT9.p.below hbc⟩
      · have hr1 : (r == 0) = false := by simpa using hr0
        clear hr hfit hload hlen hT hH hDD
        go_wp2_with (first
          | (go_at_call 18; (with_reducible refine HFl.out.mono ?_); rintro e w5 ⟨rfl, hT5⟩)
          | (go_at_call 9; (with_reducible refine (HAw.out _).mono ?_); rintro e w3 ⟨rfl, hb3⟩))
        go_ret
        exact ⟨rfl, chain6 hT5.p.below hb3⟩
theorem safe_any6 (l m : List Dd) (A1 A2 A3 : Option Addr) (c1 c2 c3 : Nat) (z : Int) (Z : List Int) (w : World) (hD1 : DL w w.heap.size A1 l) (hD2 : DL w w.heap.size A2 m) (hM : RI w w.heap.size A3 Z) :
    Calls Try.prog 5 #[.agg #[.slice A1 l.length c1, .slice A2 m.length c2, .int .i64 z, .slice A3 Z.length c3]] w fun e w' => e = .returned (.bool true) ∧ Below w.heap.size w w' := by
  cases h1 : fewL l with
  | false => exact safe_out l m A1 A2 _ c1 _ c2 z A3 _ c3 w hD1 hD2 rfl rfl (.inl h1)
  | true =>
    cases h2 : fewL m with
    | false => exact safe_out l m A1 A2 _ c1 _ c2 z A3 _ c3 w hD1 hD2 rfl rfl (.inr (.inl ⟨h1, h2⟩))
    | true =>
      by_cases h3 : z < 0
      · exact safe_out l m A1 A2 _ c1 _ c2 z A3 _ c3 w hD1 hD2 rfl rfl (.inr (.inr (.inl ⟨h1, h2, h3⟩)))
      · by_cases h4 : 15 < z
        · exact safe_out l m A1 A2 _ c1 _ c2 z A3 _ c3 w hD1 hD2 rfl rfl (.inr (.inr (.inr ⟨h1, h2, h3, h4⟩)))
        · obtain ⟨n, rfl⟩ : ∃ n : Nat, z = (n : Int) := ⟨z.toNat, by omega⟩
          exact safe_in l m A1 A2 A3 _ c1 _ c2 _ c3 n Z w hD1 hD2 hM rfl rfl rfl h1 h2 (by omega)
theorem Try.cells51 : Try.prog.cellsOf 51 = 4 := by kernel_rfl
theorem Try.cells22 : Try.prog.cellsOf 22 = 1 := by kernel_rfl
theorem open_calm {H : Type} {enc : TypeId × Value → H} {W : World} {base : Nat} {v : Value} {d : DataW H} {ps : List MemPlace} (hv : Value.okWide Try.prog W .any base 51 v) (h : DataW.Trod enc Try.prog W 0 (fun _ => true) true 51 v d ps) :
    ∃ (A1 A2 A3 : Option Addr) (D1 D2 : List Dd) (Z : List Int) (z : Int) (c1 c2 c3 : Nat), v = .agg #[.slice A1 D1.length c1, .slice A2 D2.length c2, .int .i64 z, .slice A3 Z.length c3] ∧ DL W W.heap.size A1 D1 ∧ DL W W.heap.size A2 D2 ∧ RI W W.heap.size A3 Z := by
  obtain ⟨cs, rfl, hsz⟩ := okWide_struct Try.underlying51 hv
  rw [Try.cells51] at hsz
  obtain ⟨cl⟩ := cs
  obtain ⟨a, b, c, e, rfl⟩ := list4 cl hsz
  obtain ⟨fuel, hf⟩ := h
  obtain ⟨xs, k, hk, hxy, _, hxl, hff⟩ := DataW.trod_struct Try.underlying51 hf
  match xs, hxl with
  | [y0, y1, y2, y3], _ =>
    have g0 := hff 0 _ rfl
    have g1 := hff 1 _ rfl
    have g2 := hff 2 _ rfl
    have g3 := hff 3 _ rfl
    simp [Value.cells, Try.cells22, Try.cells3, Try.cells34] at g0 g1 g2 g3
    obtain ⟨A1, D1, c1, rfl, hd1, _, _⟩ := open_deedl (fuel := k) Try.underlying22 Try.underlying36 Try.cells36 rfl rfl rfl rfl rfl Try.cells3 Try.cells3 Try.cells33 Try.cells4 Try.cells34 Try.underlying3 Try.underlying3 Try.underlying33 Try.underlying4 Try.underlying34 Try.underlying5 Try.cells5 Try.underlying3 Try.cells3 g0
    obtain ⟨A2, D2, c2, rfl, hd2, _, _⟩ := open_deedl (fuel := k) Try.underlying22 Try.underlying36 Try.cells36 rfl rfl rfl rfl rfl Try.cells3 Try.cells3 Try.cells33 Try.cells4 Try.cells34 Try.underlying3 Try.underlying3 Try.underlying33 Try.underlying4 Try.underlying34 Try.underlying5 Try.cells5 Try.underlying3 Try.cells3 g1
    obtain ⟨z, hz, _, _⟩ := DataW.trod_int Try.underlying3 g2
    obtain ⟨A3, Z, c3, rfl, hm⟩ := intl_of Try.underlying34 Try.underlying3 Try.cells3 g3
    have hz' : c = .int .i64 z := by simpa using hz
    subst hz'
    exact ⟨A1, A2, A3, D1, D2, Z, z, c1, c2, c3, rfl, hd1, hd2, hm⟩
set_option maxRecDepth 100000 in
theorem safe_lifted (os : Os) (started : os.Started) (H : Type) (enc : TypeId × Value → H) :
    ReturnsInHanded {} Try.checked os 5 .any (Rows.diskSafeSpec.pre6 enc Try.prog Try.f5 Rows.diskSafeRow.domain false) (Rows.diskSafeSpec.post enc Try.prog Try.f5 false true false false) := by
  refine returnsInHanded_of_change_sized (C := Try.checked) Try.own started (by kernel_rfl) Try.func5
    (ChangeSpec.witness6 (enc := enc) (C := Try.checked) false ⟨#[], #[.agg #[.slice none 0 0, .slice none 0 0, .int .i64 0, .slice none 0 0]], []⟩ 8 (by kernel_rfl) (by kernel_rfl) (by kernel_rfl) (by kernel_rfl)) ?_
  intro W base args ds gs before hval0 hW hcnd hsz0 _
  have hval : ∀ (j : Nat) t v, Try.f5.params[j]? = some t → args[j]? = some v → Value.okWide Try.prog W .any base t v := hval0
  have hW' : DataW.Whole enc Try.prog Try.f5.params.toList Rows.diskSafeSpec.vars false W args.toList ds gs before := hW
  have hWk := hW'
  clear hsz0 hval0
  obtain ⟨p, q, hA, hV, rfl, hfz, hnd⟩ := hW'
  rw [Try.params5] at hA hval
  obtain ⟨v0, d0, rfl, rfl, h0⟩ := trodAll_one hA
  obtain ⟨rfl, rfl⟩ := trodVars_none hV
  obtain ⟨A1, A2, A3, D1, D2, Z, z, c1, c2, c3, rfl, hD1, hD2, hM⟩ := open_calm (hval 0 51 v0 rfl rfl) h0
  refine (safe_any6 D1 D2 A1 A2 A3 c1 c2 c3 z Z W hD1 hD2 hM).mono fun e W' ⟨he, hb⟩ => ⟨_, he, ?_⟩
  exact law_post Try.laidOut hWk rfl rfl rfl rfl rfl Try.underlying4 (by kernel_rfl) hb
theorem safe_holds : Rows.DiskSafeSaid :=
  OpenClaim.holds_of_wide 5 Try.f5 rfl rfl rfl rfl rfl rfl rfl ⟨rfl, rfl, rfl, rfl, rfl⟩ rfl rfl rfl rfl rfl (by kernel_rfl) Try.func5 (by kernel_rfl)
    (of_decide_eq_true (by kernel_rfl)) (by unfold Func.isWrapper; first | (rw [if_pos (by decide +kernel)]; kernel_rfl) | (rw [if_neg (by decide +kernel)]; exact ⟨rfl, rfl⟩))
    (fun os started H enc _ => safe_lifted os started H enc)
end Go.Proofs.Ythaljnnkpfeooaa
