/- Lemmas under the proofs of this place: DagClonesA. No statement is proved here. -/
import Derived.Test.YtbeihiokjhfepaaBu38
import Derived.Test.YtbeihiokjhfepaaBu34
import Derived.Test.YtbeihiokjhfepaaBu12
import Derived.Test.YtbeihiokjhfepaaBu40
import Derived.Deep.Cut
set_option linter.unusedSimpArgs false
set_option linter.unusedVariables false
set_option maxRecDepth 100000
set_option maxHeartbeats 16000000
namespace Go.Proofs.Ytbeihiokjhfepaa
open Go.RowKit
theorem dagclones16_any {w : World} (l la lb : Gr) (A B C : Option Addr) (n c m d o f : Nat) (hn : n = l.length) (h : NL w w.heap.size A l) (hm : m = la.length) (h1 : NL w w.heap.size B la) (ho : o = lb.length) (h2 : NL w w.heap.size C lb) :
    Calls Try.prog 7 #[.slice A n c, .slice B m d, .slice C o f] w fun e w' => e = .returned (.bool true) ∧ Below w.heap.size w w' := by
  have HL1 : Hid (0 < la.length → ∃ b off, B = some ⟨b, off, none⟩ ∧ b < w.heap.size ∧ ∀ i, i < la.length → ∃ pA pc, SS w w.heap.size pA (la.getD i nd0).preds ∧ ((la.getD i nd0).preds.length ≤ pc ∧ pc ≤ 9223372036854775807) ∧ w.cell? ⟨b, off + i * 2, none⟩ = some (.string (text (la.getD i nd0).id)) ∧ w.cell? ⟨b, off + i * 2 + 1, none⟩ = some (.slice pA (la.getD i nd0).preds.length pc)) := fun hh => h1.at_ hh
  have HL2 : Hid (0 < lb.length → ∃ b off, C = some ⟨b, off, none⟩ ∧ b < w.heap.size ∧ ∀ i, i < lb.length → ∃ pA pc, SS w w.heap.size pA (lb.getD i nd0).preds ∧ ((lb.getD i nd0).preds.length ≤ pc ∧ pc ≤ 9223372036854775807) ∧ w.cell? ⟨b, off + i * 2, none⟩ = some (.string (text (lb.getD i nd0).id)) ∧ w.cell? ⟨b, off + i * 2 + 1, none⟩ = some (.slice pA (lb.getD i nd0).preds.length pc)) := fun hh => h2.at_ hh
  have HFe : Hid (∀ W, Hid (Below w.heap.size w W) → Calls Try.prog 9 #[.slice A n c] W fun e w' => ∃ b, e = .returned (.bool b) ∧ Hid (b = true → fewG l) ∧ Hid (Below w.heap.size w w')) := fun W hW => (few_any l A n c W hn (h.up hW.out)).mono fun e w' hh => by
    obtain ⟨b, q1, q2, q3⟩ := hh
    exact ⟨b, q1, q2, hW.out.trans (q3.out.mono hW.out.size)⟩
  have HFa : Hid (∀ W, Hid (Below w.heap.size w W) → Calls Try.prog 9 #[.slice B m d] W fun e w' => ∃ b, e = .returned (.bool b) ∧ Hid (b = true → fewG la) ∧ Hid (Below w.heap.size w w')) := fun W hW => (few_any la B m d W hm (h1.up hW.out)).mono fun e w' hh => by
    obtain ⟨b, q1, q2, q3⟩ := hh
    exact ⟨b, q1, q2, hW.out.trans (q3.out.mono hW.out.size)⟩
  have HFb : Hid (∀ W, Hid (Below w.heap.size w W) → Calls Try.prog 9 #[.slice C o f] W fun e w' => ∃ b, e = .returned (.bool b) ∧ Hid (b = true → fewG lb) ∧ Hid (Below w.heap.size w w')) := fun W hW => (few_any lb C o f W ho (h2.up hW.out)).mono fun e w' hh => by
    obtain ⟨b, q1, q2, q3⟩ := hh
    exact ⟨b, q1, q2, hW.out.trans (q3.out.mono hW.out.size)⟩
  have HM := Lib.hid hm
  have HO := Lib.hid ho
  obtain ⟨G, hG⟩ : ∃ g, g = makeG l := ⟨_, rfl⟩
  have HMa : Hid (∀ W, Hid (Below w.heap.size w W) → fewG l → Calls Try.prog 14 #[.slice A n c] W (GivesMake w G)) := fun W hW hf => by
    rw [hG]
    exact make_any hW.out l A n c hn h hf
  have ok : Hid (GrOk G) := by show GrOk G; rw [hG]; exact makeK_ok l _
  have HGl : Hid (fewG l → G.length ≤ 30 ∧ ∀ j, j < G.length → (G.getD j nd0).preds.length ≤ 1000) := fun hf => by
    have h1 := hf.1
    have h2 : G.length ≤ l.length := by rw [hG]; exact makeK_len l l.length
    refine ⟨by omega, ?_⟩
    rw [hG]
    exact makeK_preds hf l.length
  have HAw : Hid (∀ W, Hid (Below w.heap.size w W) → Calls Try.prog 10 #[] W fun e w' => e = .returned (.bool true) ∧ Hid (Below w.heap.size w w')) := fun W hW => (awake16_any W).mono fun e w' hh => ⟨hh.1, hW.out.trans (hh.2.mono hW.out.size)⟩
  have HB0 := Lib.hid (Below.refl w.heap.size w)
  have a27 := fun w' => Try.dagAgg w'
  have s27 := fun w' => Try.dagSize w'
  have nbz := fun w' => Try.dagZero w'
  have np := fun p w' => Try.dagNil p w'
  clear hn h hm h1 ho h2 hG
  go_enter Try.func7, Try.ntmps7
  go_upto_region 6 with (first
    | (go_at_call 9; (with_reducible refine (HFe.out _ (by assumption)).mono ?_); rintro e w1 ⟨b, rfl, hb, hz⟩; rcases b with _ | _)
    | (go_at_call 9; (with_reducible refine (HFa.out _ (by assumption)).mono ?_); rintro e w1 ⟨b, rfl, hb2, hz⟩; rcases b with _ | _)
    | (go_at_call 9; (with_reducible refine (HFb.out _ (by assumption)).mono ?_); rintro e w1 ⟨b, rfl, hb3, hz⟩; rcases b with _ | _)
    | (go_at_call 10; (with_reducible refine (HAw.out _ (by assumption)).mono ?_); rintro e w3 ⟨rfl, hz⟩)
    | (go_at_call 14; (with_reducible refine (HMa.out _ (by assumption) (hb.out trivial)).mono ?_); rintro e w4 ⟨p, F, A', n', c', rfl, hD, hR⟩))
  · go_ret
    exact ⟨rfl, hz.out⟩
  · go_ret
    exact ⟨rfl, hz.out⟩
  · go_ret
    exact ⟨rfl, hz.out⟩
  have HGL := Lib.hid (HGl.out (hb.out trivial))
  have HFA := Lib.hid (hb2.out trivial)
  have HFB := Lib.hid (hb3.out trivial)
  have hS := Lib.hid (AV.made (c := c') hD.out hR.out)
  obtain ⟨R, hR8⟩ : ∃ x, x = w4.heap.size := ⟨_, rfl⟩
  obtain ⟨wm, hwm⟩ : ∃ x, x = w4.alloc (.cells #[.slice A' n' c'] 27) := ⟨_, rfl⟩
  rw [← hwm, ← hR8] at hS ⊢
  have HCl : Hid (∀ W, DH w W p F G → Calls Try.prog 32 #[.pointer (some ⟨p, 0, none⟩)] W fun e w' => ∃ (q : Nat) (F' : Nat → Prop), e = .returned (.pointer (some ⟨q, 0, none⟩)) ∧ Hid (PDagC W p w' q F' G) ∧ Hid (∀ k, F' k → W.heap.size ≤ k) ∧ Hid (Below W.heap.size W w')) := fun W hW => dagclone_any hW.dag ok.out (by have := HGL.out.1; omega)
  clear hwm hR8 hD hR hb hb2 hb3 hz HGl HFe HFa HFb HMa HB0
  have P0 : AV w wm.drew R p F A' n' c' G := hS.out.up ⟨rfl, rfl, rfl, Nat.le_refl _, fun _ _ => rfl⟩
  have S0 : (Below w.heap.size w wm.drew ∧ wm.drew.cell? ⟨R, 0, none⟩ = some (.slice A' n' c')) := ⟨P0.dh.below, P0.v.xv.cell 0⟩
  refine region_T (fun W => (Below w.heap.size w W ∧ W.cell? ⟨R, 0, none⟩ = some (.slice A' n' c'))) (fun j => Nat.beq j 5) (by kernel_rfl) ?_
  refine any_asT rfl (listed' := #[false, false, false, false, false, false]) (by kernel_rfl) ?_
  refine take_c (i := 0) (.pointer (some ⟨p, 0, none⟩)) 36 rfl (by kernel_rfl) (by kernel_rfl) (by kernel_rfl) (by kernel_rfl) (by kernel_rfl) rfl (by kernel_rfl) (by kernel_rfl) (fun W hW => by kernel_rfl) S0 (fun _ _ _ h => h) ?_
  simp only [Act.put, List.setIfInBounds_toArray, List.set_cons_zero, List.set_cons_succ]
  refine take_c (i := 2) (.agg #[.slice A' n' c']) 38 rfl (by kernel_rfl) (by kernel_rfl) (by kernel_rfl) (by kernel_rfl) (by kernel_rfl) rfl (by kernel_rfl) (by kernel_rfl) (fun W hW => dagload_run (.tmp 8) R A' n' c' (by kernel_rfl) (by kernel_rfl) hW.2) S0 (fun _ _ _ h => h) ?_
  simp only [Act.put, List.setIfInBounds_toArray, List.set_cons_zero, List.set_cons_succ]
  refine any_twoC (i := 1) (j := 3) (by kernel_rfl) ?_ ?_
  · refine op_enter 32 #[.pointer (some ⟨p, 0, none⟩)] (some 37) rfl (by kernel_rfl) (by kernel_rfl) (by kernel_rfl) ((HCl.out _ P0.dh).mono ?_)
    rintro e z1 ⟨q, F2, rfl, hP, hF, hb⟩
    have S1 : (Below w.heap.size w z1 ∧ z1.cell? ⟨R, 0, none⟩ = some (.slice A' n' c')) := ⟨(P0.up hb.out).dh.below, (P0.up hb.out).v.xv.cell 0⟩
    refine ⟨_, rfl, S1, ?_⟩
    simp only [Act.put, List.setIfInBounds_toArray, List.set_cons_zero, List.set_cons_succ]
    have P2 := CY.ofA P0 hP.out hF.out hb.out
    have S2 : (Below w.heap.size w (z1.alloc (.cells #[.slice none 0 0] 27)) ∧ (z1.alloc (.cells #[.slice none 0 0] 27)).cell? ⟨R, 0, none⟩ = some (.slice A' n' c')) := ⟨P2.ca.d1.below, P2.v1.xv.cell 0⟩
    refine any_comes (i := 3) (by kernel_rfl) (op_value (.pointer (some ⟨z1.heap.size, 0, none⟩)) rfl (by kernel_rfl) (w' := z1.alloc (.cells #[.slice none 0 0] 27)) (by kernel_rfl) rfl ⟨S2, ?_⟩)
    simp only [Act.put, List.setIfInBounds_toArray, List.set_cons_zero, List.set_cons_succ]
    refine take_c (i := 4) (.pointer (some ⟨q, 0, none⟩)) 9 rfl (by kernel_rfl) (by kernel_rfl) (by kernel_rfl) (by kernel_rfl) (by kernel_rfl) rfl (by kernel_rfl) (by kernel_rfl) (fun W hW => by kernel_rfl) S2 (fun _ _ _ h => h) ?_
    simp only [Act.put, List.setIfInBounds_toArray, List.set_cons_zero, List.set_cons_succ]
    obtain ⟨R10, hR10⟩ : ∃ x, x = z1.heap.size := ⟨_, rfl⟩
    obtain ⟨W2, hW2⟩ : ∃ x, x = z1.alloc (.cells #[.slice none 0 0] 27) := ⟨_, rfl⟩
    rw [← hR10, ← hW2] at P2 ⊢
    have hY := Lib.hid P2
    clear P2 S2 S1 S0 P0 hP hF hb hR10 hW2 hS HCl
    refine any_left (by kernel_rfl) ?_
    have y6 := hY.out.y.cell 0
    have y6f := hY.out.y.frozen 0
    have y6l := hY.out.y.lt
    have hS2 : Hid (CV w (W2.setCell ⟨R10, 0, none⟩ (.slice A' n' c')) p F q F2 R R10 A' n' c' A' n' c' (makeF G la 0) G (makeF G la 0) G) := hY.out.stored
    clear hY
    refine wpAny_tail 5 (by kernel_rfl) (by kernel_rfl) ?_
    simp only [List.append, List.append_eq, List.drop_succ_cons, List.drop_zero, List.drop_nil]
    go_wp2
    clear y6 y6f y6l
    go_loopw [11] (fun v wr => ∃ (k : Nat) (F1 : Nat → Prop) (A1 : Option Addr) (n1 c1 : Nat), k ≤ m ∧ v = .int .i64 (k : Int) ∧ Hid (CV w wr p F1 q F2 R R10 A1 n1 c1 A' n' c' (makeF G la k) G (makeF G la k) G)) (fun v _ => m - (intOf v).toNat)
    case atStart => exact ⟨0, _, _, _, _, Nat.zero_le _, rfl, hS2.out⟩
    case round =>
      obtain ⟨k, F1, A1, n1, c1, hk, rfl, hS⟩ := hrel
      by_cases hlt : k < m
      · have d0 : decide ((k : Int) < (m : Int)) = true := decide_eq_true (by omega)
        have hkl : k < la.length := by have := HM.out; omega
        have HN30 : Hid (m = la.length ∧ m ≤ 1000) := ⟨HM.out, by have := HM.out; have := HFA.out.1; omega⟩
        obtain ⟨b, off, rfl, hb, hc⟩ := HL1.out (by omega)
        obtain ⟨pA, pc, hs, hcap, hc0, hc1⟩ := hc k hkl
        obtain ⟨f1, f2, f3⟩ := HFA.out.2 k hkl
        have hMk : makeF G la (k + 1) = (addG (makeF G la k) (la.getD k nd0).id (la.getD k nd0).preds).1 := rfl
        obtain ⟨x, hx⟩ : ∃ x, x = (la.getD k nd0).id := ⟨_, rfl⟩
        obtain ⟨ps, hps⟩ : ∃ x, x = (la.getD k nd0).preds := ⟨_, rfl⟩
        rw [← hx] at hc0 f1 hMk
        rw [← hps] at hs hcap hc1 f2 hMk
        obtain ⟨t, ht⟩ : ∃ t, t = text x := ⟨_, rfl⟩
        obtain ⟨mm, hm⟩ : ∃ m, m = ps.length := ⟨_, rfl⟩
        rw [← ht] at hc0
        rw [← hm] at hc1 hcap f2
        have HSt : Hid (∀ W, Below w.heap.size w W → W.cell? ⟨b, off + k * 2, none⟩ = some (.string t) ∧ W.cell? ⟨b, off + k * 2 + 1, none⟩ = some (.slice pA mm pc)) := fun W hW => ⟨(hW.cell (p := ⟨b, off + k * 2, none⟩) hb).trans hc0, (hW.cell (p := ⟨b, off + k * 2 + 1, none⟩) hb).trans hc1⟩
        obtain ⟨g1, hg⟩ : ∃ g, g = makeF G la k := ⟨_, rfl⟩
        have hok : GrOk g1 := by rw [hg]; exact makeF_ok ok.out _ k
        have hgl : g1.length ≤ 1000 := by have := makeF_len G la k; have := HN30.out; have := HGL.out.1; have := HFA.out.1; rw [hg]; omega
        obtain ⟨g2, hg2⟩ : ∃ g, g = makeF G la (k + 1) := ⟨_, rfl⟩
        rw [← hg] at hMk hS
        rw [← hg2] at hMk
        have HAdd : Hid (∀ W, CV w W p F1 q F2 R R10 A1 n1 c1 A' n' c' g1 G g1 G → Calls Try.prog 12 #[.pointer (some ⟨p, 0, none⟩), .string t, .slice pA mm pc] W fun e w' => ∃ (y : Int) (F' : Nat → Prop), e = .returned (.int .i64 y) ∧ Hid (CV w w' p F' q F2 R R10 A1 n1 c1 A' n' c' g2 G g1 G)) := fun W hW => by
          rw [ht]
          refine (dagadd_any hW.ca.d1.dag hok hgl x ps pA mm pc (by omega) hm ((hs.below hW.ca.d1.below).more hW.ca.d1.below.size) (fun h0 ad e hf => ?_) (by omega) hcap.1 hcap.2).mono fun e w' hh => ?_
          · obtain ⟨pb, po, e2, h2, -⟩ := hs.at_ (by omega)
            rw [e2] at e
            injection e with e
            have h3 := hW.ca.d1.own _ hf
            rw [← e] at h3
            have h3 : w.heap.size ≤ pb := h3
            omega
          · obtain ⟨q1, F', q2, q3⟩ := hh
            exact ⟨_, F', q1, hW.turned1 (by rw [hMk]; exact q2.out) q3.out⟩
        have HRA : Hid (∀ W F', CV w W p F' q F2 R R10 A1 n1 c1 A' n' c' g2 G g1 G → Calls Try.prog 11 #[.agg #[.slice A1 n1 c1], .string t, .slice pA mm pc] W fun e w' => ∃ (A3 : Option Addr) (n3 c3 : Nat) (y : Int), e = .returned (.tuple #[.agg #[.slice A3 n3 c3], .int .i64 y]) ∧ Hid (RH w w' (fun k => F' k ∨ F2 k) A3 n3 g2) ∧ Hid (Below W.heap.size W w')) := fun W F' hW => by
          rw [ht, hMk]
          refine (radds_any hW.v1.rh hW.ca.d1.below (fun k hk => hk.elim (hW.ca.d1.flt k) (hW.ca.d2.flt k)) hgl c1 x ps pA mm pc hm hs (by omega) hcap.1 hcap.2).mono fun e w' hh => ?_
          obtain ⟨A3, n3, c3, q1, q2, q3⟩ := hh
          exact ⟨A3, n3, c3, _, q1, q2, q3⟩
        have HMk := Lib.hid hg2
        clear hx hps ht hm hs hcap hc0 hc1 hc hb hkl f1 f2 f3 hMk hg hg2 hok hgl hS2
        go_wp2
        have P0 : CV w wr.drew p F1 q F2 R R10 A1 n1 c1 A' n' c' g1 G g1 G := hS.out.up ⟨rfl, rfl, rfl, Nat.le_refl _, fun _ _ => rfl⟩
        have S0 : Below w.heap.size w wr.drew := P0.ca.d1.below
        refine region_T (fun W => Below w.heap.size w W) (fun j => decide (12 ≤ j)) (by kernel_rfl) ?_
        refine any_asT rfl (listed' := #[false, false, false, false, false, false, false, false, false, false, false, false]) (by kernel_rfl) ?_
        refine take_c (i := 0) (.pointer (some ⟨p, 0, none⟩)) 47 rfl (by kernel_rfl) (by kernel_rfl) (by kernel_rfl) (by kernel_rfl) (by kernel_rfl) rfl (by kernel_rfl) (by kernel_rfl) (fun W hW => by kernel_rfl) S0 (fun _ _ _ h => h) ?_
        simp only [Act.put, List.setIfInBounds_toArray, List.set_cons_zero, List.set_cons_succ]
        refine take_c (i := 1) (.slice (some ⟨b, off, none⟩) m d) 48 rfl (by kernel_rfl) (by kernel_rfl) (by kernel_rfl) (by kernel_rfl) (by kernel_rfl) rfl (by kernel_rfl) (by kernel_rfl) (fun W hW => by kernel_rfl) S0 (fun _ _ _ h => h) ?_
        simp only [Act.put, List.setIfInBounds_toArray, List.set_cons_zero, List.set_cons_succ]
        refine take_c (i := 2) (.int .i64 (k : Int)) 49 rfl (by kernel_rfl) (by kernel_rfl) (by kernel_rfl) (by kernel_rfl) (by kernel_rfl) rfl (by kernel_rfl) (by kernel_rfl) (fun W hW => by kernel_rfl) S0 (fun _ _ _ h => h) ?_
        simp only [Act.put, List.setIfInBounds_toArray, List.set_cons_zero, List.set_cons_succ]
        refine take_c (i := 3) (.pointer (some ⟨b, off + k * 2, none⟩)) 50 rfl (by kernel_rfl) (by kernel_rfl) (by kernel_rfl) (by kernel_rfl) (by kernel_rfl) rfl (by kernel_rfl) (by kernel_rfl) (fun W hW => nidx_run (.tmp 48) (.tmp 49) b off m d k (by kernel_rfl) (by kernel_rfl) (by kernel_rfl) hlt) S0 (fun _ _ _ h => h) ?_
        simp only [Act.put, List.setIfInBounds_toArray, List.set_cons_zero, List.set_cons_succ]
        refine take_c (i := 4) (.pointer (some ⟨b, off + k * 2, none⟩)) 51 rfl (by kernel_rfl) (by kernel_rfl) (by kernel_rfl) (by kernel_rfl) (by kernel_rfl) rfl (by kernel_rfl) (by kernel_rfl) (fun W hW => nfld0_run (.tmp 50) b (off + k * 2) (by kernel_rfl) (by kernel_rfl)) S0 (fun _ _ _ h => h) ?_
        simp only [Act.put, List.setIfInBounds_toArray, List.set_cons_zero, List.set_cons_succ]
        refine take_c (i := 5) (.string t) 52 rfl (by kernel_rfl) (by kernel_rfl) (by kernel_rfl) (by kernel_rfl) (by kernel_rfl) rfl (by kernel_rfl) (by kernel_rfl) (fun W hW => cell_run 9 (.tmp 51) ⟨b, off + k * 2, none⟩ (.string t) _ (by kernel_rfl) (by kernel_rfl) (HSt.out W hW).1 Try.underlying9 rfl (by kernel_rfl)) S0 (fun _ _ _ h => h) ?_
        simp only [Act.put, List.setIfInBounds_toArray, List.set_cons_zero, List.set_cons_succ]
        refine take_c (i := 6) (.slice (some ⟨b, off, none⟩) m d) 53 rfl (by kernel_rfl) (by kernel_rfl) (by kernel_rfl) (by kernel_rfl) (by kernel_rfl) rfl (by kernel_rfl) (by kernel_rfl) (fun W hW => by kernel_rfl) S0 (fun _ _ _ h => h) ?_
        simp only [Act.put, List.setIfInBounds_toArray, List.set_cons_zero, List.set_cons_succ]
        refine take_c (i := 7) (.int .i64 (k : Int)) 54 rfl (by kernel_rfl) (by kernel_rfl) (by kernel_rfl) (by kernel_rfl) (by kernel_rfl) rfl (by kernel_rfl) (by kernel_rfl) (fun W hW => by kernel_rfl) S0 (fun _ _ _ h => h) ?_
        simp only [Act.put, List.setIfInBounds_toArray, List.set_cons_zero, List.set_cons_succ]
        refine take_c (i := 8) (.pointer (some ⟨b, off + k * 2, none⟩)) 55 rfl (by kernel_rfl) (by kernel_rfl) (by kernel_rfl) (by kernel_rfl) (by kernel_rfl) rfl (by kernel_rfl) (by kernel_rfl) (fun W hW => nidx_run (.tmp 53) (.tmp 54) b off m d k (by kernel_rfl) (by kernel_rfl) (by kernel_rfl) hlt) S0 (fun _ _ _ h => h) ?_
        simp only [Act.put, List.setIfInBounds_toArray, List.set_cons_zero, List.set_cons_succ]
        refine take_c (i := 9) (.pointer (some ⟨b, off + k * 2 + 1, none⟩)) 56 rfl (by kernel_rfl) (by kernel_rfl) (by kernel_rfl) (by kernel_rfl) (by kernel_rfl) rfl (by kernel_rfl) (by kernel_rfl) (fun W hW => nfld1_run (.tmp 55) b (off + k * 2) (by kernel_rfl) (by kernel_rfl)) S0 (fun _ _ _ h => h) ?_
        simp only [Act.put, List.setIfInBounds_toArray, List.set_cons_zero, List.set_cons_succ]
        refine take_c (i := 10) (.slice pA mm pc) 57 rfl (by kernel_rfl) (by kernel_rfl) (by kernel_rfl) (by kernel_rfl) (by kernel_rfl) rfl (by kernel_rfl) (by kernel_rfl) (fun W hW => cell_run 33 (.tmp 56) ⟨b, off + k * 2 + 1, none⟩ (.slice pA mm pc) _ (by kernel_rfl) (by kernel_rfl) (HSt.out W hW).2 Try.underlying33 rfl (by kernel_rfl)) S0 (fun _ _ _ h => h) ?_
        simp only [Act.put, List.setIfInBounds_toArray, List.set_cons_zero, List.set_cons_succ]
        refine any_comes (i := 11) (by kernel_rfl) (op_enter 12 #[.pointer (some ⟨p, 0, none⟩), .string t, .slice pA mm pc] (some 58) rfl (by kernel_rfl) (by kernel_rfl) (by kernel_rfl) ((HAdd.out _ P0).mono ?_))
        rintro e z1 ⟨y, F', rfl, hT⟩
        have S1 := hT.out.ca.d1.below
        refine ⟨_, rfl, S1, ?_⟩
        simp only [Act.put, List.setIfInBounds_toArray, List.set_cons_zero, List.set_cons_succ]
        refine any_left (by kernel_rfl) ?_
        refine wpAny_tail 12 (by kernel_rfl) (by kernel_rfl) ?_
        simp only [List.drop_succ_cons, List.drop_zero, List.drop_nil]
        go_wp2
        obtain ⟨wa, hwa⟩ : ∃ x, x = z1 := ⟨_, rfl⟩
        rw [← hwa] at hT ⊢
        clear hwa S0 S1 P0
        have x5 := hT.out.v1.xv.cell 0
        have x5f := hT.out.v1.xv.frozen 0
        have x5l := hT.out.v1.xv.lt
        go_wp2
        have P1 : CV w wa.drew p F' q F2 R R10 A1 n1 c1 A' n' c' g2 G g1 G := hT.out.up ⟨rfl, rfl, rfl, Nat.le_refl _, fun _ _ => rfl⟩
        have S0 : (Below w.heap.size w wa.drew ∧ wa.drew.cell? ⟨R, 0, none⟩ = some (.slice A1 n1 c1)) := ⟨P1.ca.d1.below, P1.v1.xv.cell 0⟩
        refine region_T (fun W => (Below w.heap.size w W ∧ W.cell? ⟨R, 0, none⟩ = some (.slice A1 n1 c1))) (fun j => decide (13 ≤ j)) (by kernel_rfl) ?_
        refine any_asT rfl (listed' := #[false, false, false, false, false, false, false, false, false, false, false, false, false, false, false, false]) (by kernel_rfl) ?_
        refine take_c (i := 0) (.agg #[.slice A1 n1 c1]) 60 rfl (by kernel_rfl) (by kernel_rfl) (by kernel_rfl) (by kernel_rfl) (by kernel_rfl) rfl (by kernel_rfl) (by kernel_rfl) (fun W hW => dagload_run (.tmp 8) R A1 n1 c1 (by kernel_rfl) (by kernel_rfl) hW.2) S0 (fun _ _ _ h => h) ?_
        simp only [Act.put, List.setIfInBounds_toArray, List.set_cons_zero, List.set_cons_succ]
        refine take_c (i := 1) (.slice (some ⟨b, off, none⟩) m d) 61 rfl (by kernel_rfl) (by kernel_rfl) (by kernel_rfl) (by kernel_rfl) (by kernel_rfl) rfl (by kernel_rfl) (by kernel_rfl) (fun W hW => by kernel_rfl) S0 (fun _ _ _ h => h) ?_
        simp only [Act.put, List.setIfInBounds_toArray, List.set_cons_zero, List.set_cons_succ]
        refine take_c (i := 2) (.int .i64 (k : Int)) 62 rfl (by kernel_rfl) (by kernel_rfl) (by kernel_rfl) (by kernel_rfl) (by kernel_rfl) rfl (by kernel_rfl) (by kernel_rfl) (fun W hW => by kernel_rfl) S0 (fun _ _ _ h => h) ?_
        simp only [Act.put, List.setIfInBounds_toArray, List.set_cons_zero, List.set_cons_succ]
        refine take_c (i := 3) (.pointer (some ⟨b, off + k * 2, none⟩)) 63 rfl (by kernel_rfl) (by kernel_rfl) (by kernel_rfl) (by kernel_rfl) (by kernel_rfl) rfl (by kernel_rfl) (by kernel_rfl) (fun W hW => nidx_run (.tmp 61) (.tmp 62) b off m d k (by kernel_rfl) (by kernel_rfl) (by kernel_rfl) hlt) S0 (fun _ _ _ h => h) ?_
        simp only [Act.put, List.setIfInBounds_toArray, List.set_cons_zero, List.set_cons_succ]
        refine take_c (i := 4) (.pointer (some ⟨b, off + k * 2, none⟩)) 64 rfl (by kernel_rfl) (by kernel_rfl) (by kernel_rfl) (by kernel_rfl) (by kernel_rfl) rfl (by kernel_rfl) (by kernel_rfl) (fun W hW => nfld0_run (.tmp 63) b (off + k * 2) (by kernel_rfl) (by kernel_rfl)) S0 (fun _ _ _ h => h) ?_
        simp only [Act.put, List.setIfInBounds_toArray, List.set_cons_zero, List.set_cons_succ]
        refine take_c (i := 5) (.string t) 65 rfl (by kernel_rfl) (by kernel_rfl) (by kernel_rfl) (by kernel_rfl) (by kernel_rfl) rfl (by kernel_rfl) (by kernel_rfl) (fun W hW => cell_run 9 (.tmp 64) ⟨b, off + k * 2, none⟩ (.string t) _ (by kernel_rfl) (by kernel_rfl) (HSt.out W hW.1).1 Try.underlying9 rfl (by kernel_rfl)) S0 (fun _ _ _ h => h) ?_
        simp only [Act.put, List.setIfInBounds_toArray, List.set_cons_zero, List.set_cons_succ]
        refine take_c (i := 6) (.slice (some ⟨b, off, none⟩) m d) 66 rfl (by kernel_rfl) (by kernel_rfl) (by kernel_rfl) (by kernel_rfl) (by kernel_rfl) rfl (by kernel_rfl) (by kernel_rfl) (fun W hW => by kernel_rfl) S0 (fun _ _ _ h => h) ?_
        simp only [Act.put, List.setIfInBounds_toArray, List.set_cons_zero, List.set_cons_succ]
        refine take_c (i := 7) (.int .i64 (k : Int)) 67 rfl (by kernel_rfl) (by kernel_rfl) (by kernel_rfl) (by kernel_rfl) (by kernel_rfl) rfl (by kernel_rfl) (by kernel_rfl) (fun W hW => by kernel_rfl) S0 (fun _ _ _ h => h) ?_
        simp only [Act.put, List.setIfInBounds_toArray, List.set_cons_zero, List.set_cons_succ]
        refine take_c (i := 8) (.pointer (some ⟨b, off + k * 2, none⟩)) 68 rfl (by kernel_rfl) (by kernel_rfl) (by kernel_rfl) (by kernel_rfl) (by kernel_rfl) rfl (by kernel_rfl) (by kernel_rfl) (fun W hW => nidx_run (.tmp 66) (.tmp 67) b off m d k (by kernel_rfl) (by kernel_rfl) (by kernel_rfl) hlt) S0 (fun _ _ _ h => h) ?_
        simp only [Act.put, List.setIfInBounds_toArray, List.set_cons_zero, List.set_cons_succ]
        refine take_c (i := 9) (.pointer (some ⟨b, off + k * 2 + 1, none⟩)) 69 rfl (by kernel_rfl) (by kernel_rfl) (by kernel_rfl) (by kernel_rfl) (by kernel_rfl) rfl (by kernel_rfl) (by kernel_rfl) (fun W hW => nfld1_run (.tmp 68) b (off + k * 2) (by kernel_rfl) (by kernel_rfl)) S0 (fun _ _ _ h => h) ?_
        simp only [Act.put, List.setIfInBounds_toArray, List.set_cons_zero, List.set_cons_succ]
        refine take_c (i := 10) (.slice pA mm pc) 70 rfl (by kernel_rfl) (by kernel_rfl) (by kernel_rfl) (by kernel_rfl) (by kernel_rfl) rfl (by kernel_rfl) (by kernel_rfl) (fun W hW => cell_run 33 (.tmp 69) ⟨b, off + k * 2 + 1, none⟩ (.slice pA mm pc) _ (by kernel_rfl) (by kernel_rfl) (HSt.out W hW.1).2 Try.underlying33 rfl (by kernel_rfl)) S0 (fun _ _ _ h => h) ?_
        simp only [Act.put, List.setIfInBounds_toArray, List.set_cons_zero, List.set_cons_succ]
        refine any_comes (i := 11) (by kernel_rfl) (op_enter 11 #[.agg #[.slice A1 n1 c1], .string t, .slice pA mm pc] (some 71) rfl (by kernel_rfl) (by kernel_rfl) (by kernel_rfl) ((HRA.out _ _ P1).mono ?_))
        rintro e z2 ⟨A3, n3, c3, y2, rfl, q2, b2⟩
        have b2' : Below wa.heap.size wa z2 := ⟨b2.out.os, b2.out.tape, b2.out.output, b2.out.size, b2.out.block⟩
        have P2 := hT.out.up b2'
        have S1 : (Below w.heap.size w z2 ∧ z2.cell? ⟨R, 0, none⟩ = some (.slice A1 n1 c1)) := ⟨P2.ca.d1.below, P2.v1.xv.cell 0⟩
        refine ⟨_, rfl, S1, ?_⟩
        simp only [Act.put, List.setIfInBounds_toArray, List.set_cons_zero, List.set_cons_succ]
        refine take_c (i := 12) (.tuple #[.agg #[.slice A3 n3 c3], .int .i64 y2]) 59 rfl (by kernel_rfl) (by kernel_rfl) (by kernel_rfl) (by kernel_rfl) (by kernel_rfl) rfl (by kernel_rfl) (by kernel_rfl) (fun W hW => by kernel_rfl) S1 (fun _ _ _ h => h) ?_
        simp only [Act.put, List.setIfInBounds_toArray, List.set_cons_zero, List.set_cons_succ]
        have x6 := P2.v1.xv.cell 0
        have x6f := P2.v1.xv.frozen 0
        have x6l := P2.v1.xv.lt
        refine any_left (by kernel_rfl) ?_
        refine take_p (i := 13) (.agg #[.slice A3 n3 c3]) 72 rfl (by kernel_rfl) (by kernel_rfl) (by kernel_rfl) (by kernel_rfl) (by kernel_rfl) (fun W => by kernel_rfl) (fun _ _ _ h => h) ?_
        simp only [Act.put, List.setIfInBounds_toArray, List.set_cons_zero, List.set_cons_succ]
        refine take_p (i := 14) (.int .i64 y2) 73 rfl (by kernel_rfl) (by kernel_rfl) (by kernel_rfl) (by kernel_rfl) (by kernel_rfl) (fun W => by kernel_rfl) (fun _ _ _ h => h) ?_
        simp only [Act.put, List.setIfInBounds_toArray, List.set_cons_zero, List.set_cons_succ]
        refine wpAny_tail 15 (by kernel_rfl) (by kernel_rfl) ?_
        simp only [List.append, List.append_eq, List.drop_succ_cons, List.drop_zero, List.drop_nil]
        go_wp2
        go_roundw
        case rel => exact ⟨k + 1, F', A3, n3, c3, hlt, congrArg (Value.int .i64) (next64 hlt HN30.out), by rw [← HMk.out]; exact hT.out.store1 (show Below wa.heap.size wa z2 from b2') q2.out⟩
        case measure => exact less64 hlt HN30.out
      · have d0 : decide ((k : Int) < (m : Int)) = false := decide_eq_false (by omega)
        have hkm : k = la.length := by have := HM.out; omega
        obtain ⟨G9, hG9⟩ : ∃ g, g = makeF G la k := ⟨_, rfl⟩
        have HG9 : Hid (GrOk G9 ∧ G9.length ≤ 1000 ∧ ∀ j, j < G9.length → (G9.getD j nd0).preds.length ≤ 1000) := by
          show _ ∧ _ ∧ _
          rw [hG9]
          exact ⟨makeF_ok ok.out la k, by have := makeF_len G la k; have := HGL.out.1; have := HFA.out.1; omega, makeF_preds HGL.out.2 HFA.out k⟩
        rw [← hG9] at hS
        obtain ⟨F9, hF9⟩ : ∃ g, g = F1 := ⟨_, rfl⟩
        obtain ⟨A9, hA9⟩ : ∃ g, g = A1 := ⟨_, rfl⟩
        obtain ⟨n9, hn9⟩ : ∃ g, g = n1 := ⟨_, rfl⟩
        obtain ⟨c9, hc9⟩ : ∃ g, g = c1 := ⟨_, rfl⟩
        rw [← hF9, ← hA9, ← hn9, ← hc9] at hS
        clear hkm hG9 hF9 hA9 hn9 hc9 hS2 HL1
        have hS2 := hS
        clear hS
        go_wp2
        go_loopw [12] (fun v wr => ∃ (k : Nat) (F1 : Nat → Prop) (A1 : Option Addr) (n1 c1 : Nat), k ≤ o ∧ v = .int .i64 (k : Int) ∧ Hid (CV w wr p F9 q F1 R R10 A9 n9 c9 A1 n1 c1 G9 (makeF G lb k) G9 (makeF G lb k))) (fun v _ => o - (intOf v).toNat)
        case atStart => exact ⟨0, _, _, _, _, Nat.zero_le _, rfl, hS2.out⟩
        case round =>
          obtain ⟨k, F1, A1, n1, c1, hk, rfl, hS⟩ := hrel
          by_cases hlt : k < o
          · have d0 : decide ((k : Int) < (o : Int)) = true := decide_eq_true (by omega)
            have hkl : k < lb.length := by have := HO.out; omega
            have HN30 : Hid (o = lb.length ∧ o ≤ 1000) := ⟨HO.out, by have := HO.out; have := HFB.out.1; omega⟩
            obtain ⟨b, off, rfl, hb, hc⟩ := HL2.out (by omega)
            obtain ⟨pA, pc, hs, hcap, hc0, hc1⟩ := hc k hkl
            obtain ⟨f1, f2, f3⟩ := HFB.out.2 k hkl
            have hMk : makeF G lb (k + 1) = (addG (makeF G lb k) (lb.getD k nd0).id (lb.getD k nd0).preds).1 := rfl
            obtain ⟨x, hx⟩ : ∃ x, x = (lb.getD k nd0).id := ⟨_, rfl⟩
            obtain ⟨ps, hps⟩ : ∃ x, x = (lb.getD k nd0).preds := ⟨_, rfl⟩
            rw [← hx] at hc0 f1 hMk
            rw [← hps] at hs hcap hc1 f2 hMk
            obtain ⟨t, ht⟩ : ∃ t, t = text x := ⟨_, rfl⟩
            obtain ⟨mm, hm⟩ : ∃ m, m = ps.length := ⟨_, rfl⟩
            rw [← ht] at hc0
            rw [← hm] at hc1 hcap f2
            have HSt : Hid (∀ W, Below w.heap.size w W → W.cell? ⟨b, off + k * 2, none⟩ = some (.string t) ∧ W.cell? ⟨b, off + k * 2 + 1, none⟩ = some (.slice pA mm pc)) := fun W hW => ⟨(hW.cell (p := ⟨b, off + k * 2, none⟩) hb).trans hc0, (hW.cell (p := ⟨b, off + k * 2 + 1, none⟩) hb).trans hc1⟩
            obtain ⟨g1, hg⟩ : ∃ g, g = makeF G lb k := ⟨_, rfl⟩
            have hok : GrOk g1 := by rw [hg]; exact makeF_ok ok.out _ k
            have hgl : g1.length ≤ 1000 := by have := makeF_len G lb k; have := HN30.out; have := HGL.out.1; have := HFB.out.1; rw [hg]; omega
            obtain ⟨g2, hg2⟩ : ∃ g, g = makeF G lb (k + 1) := ⟨_, rfl⟩
            rw [← hg] at hMk hS
            rw [← hg2] at hMk
            have HAdd : Hid (∀ W, CV w W p F9 q F1 R R10 A9 n9 c9 A1 n1 c1 G9 g1 G9 g1 → Calls Try.prog 12 #[.pointer (some ⟨q, 0, none⟩), .string t, .slice pA mm pc] W fun e w' => ∃ (y : Int) (F' : Nat → Prop), e = .returned (.int .i64 y) ∧ Hid (CV w w' p F9 q F' R R10 A9 n9 c9 A1 n1 c1 G9 g2 G9 g1)) := fun W hW => by
              rw [ht]
              refine (dagadd_any hW.ca.d2.dag hok hgl x ps pA mm pc (by omega) hm ((hs.below hW.ca.d2.below).more hW.ca.d2.below.size) (fun h0 ad e hf => ?_) (by omega) hcap.1 hcap.2).mono fun e w' hh => ?_
              · obtain ⟨pb, po, e2, h2, -⟩ := hs.at_ (by omega)
                rw [e2] at e
                injection e with e
                have h3 := hW.ca.d2.own _ hf
                rw [← e] at h3
                have h3 : w.heap.size ≤ pb := h3
                omega
              · obtain ⟨q1, F', q2, q3⟩ := hh
                exact ⟨_, F', q1, hW.turned2 (by rw [hMk]; exact q2.out) q3.out⟩
            have HRA : Hid (∀ W F', CV w W p F9 q F' R R10 A9 n9 c9 A1 n1 c1 G9 g2 G9 g1 → Calls Try.prog 11 #[.agg #[.slice A1 n1 c1], .string t, .slice pA mm pc] W fun e w' => ∃ (A3 : Option Addr) (n3 c3 : Nat) (y : Int), e = .returned (.tuple #[.agg #[.slice A3 n3 c3], .int .i64 y]) ∧ Hid (RH w w' (fun k => F9 k ∨ F' k) A3 n3 g2) ∧ Hid (Below W.heap.size W w')) := fun W F' hW => by
              rw [ht, hMk]
              refine (radds_any hW.v2.rh hW.ca.d2.below (fun k hk => hk.elim (hW.ca.d1.flt k) (hW.ca.d2.flt k)) hgl c1 x ps pA mm pc hm hs (by omega) hcap.1 hcap.2).mono fun e w' hh => ?_
              obtain ⟨A3, n3, c3, q1, q2, q3⟩ := hh
              exact ⟨A3, n3, c3, _, q1, q2, q3⟩
            have HMk := Lib.hid hg2
            clear hx hps ht hm hs hcap hc0 hc1 hc hb hkl f1 f2 f3 hMk hg hg2 hok hgl hS2
            go_wp2
            have P0 : CV w wr.drew p F9 q F1 R R10 A9 n9 c9 A1 n1 c1 G9 g1 G9 g1 := hS.out.up ⟨rfl, rfl, rfl, Nat.le_refl _, fun _ _ => rfl⟩
            have S0 : Below w.heap.size w wr.drew := P0.ca.d1.below
            refine region_T (fun W => Below w.heap.size w W) (fun j => decide (12 ≤ j)) (by kernel_rfl) ?_
            refine any_asT rfl (listed' := #[false, false, false, false, false, false, false, false, false, false, false, false]) (by kernel_rfl) ?_
            refine take_c (i := 0) (.pointer (some ⟨q, 0, none⟩)) 80 rfl (by kernel_rfl) (by kernel_rfl) (by kernel_rfl) (by kernel_rfl) (by kernel_rfl) rfl (by kernel_rfl) (by kernel_rfl) (fun W hW => by kernel_rfl) S0 (fun _ _ _ h => h) ?_
            simp only [Act.put, List.setIfInBounds_toArray, List.set_cons_zero, List.set_cons_succ]
            refine take_c (i := 1) (.slice (some ⟨b, off, none⟩) o f) 81 rfl (by kernel_rfl) (by kernel_rfl) (by kernel_rfl) (by kernel_rfl) (by kernel_rfl) rfl (by kernel_rfl) (by kernel_rfl) (fun W hW => by kernel_rfl) S0 (fun _ _ _ h => h) ?_
            simp only [Act.put, List.setIfInBounds_toArray, List.set_cons_zero, List.set_cons_succ]
            refine take_c (i := 2) (.int .i64 (k : Int)) 82 rfl (by kernel_rfl) (by kernel_rfl) (by kernel_rfl) (by kernel_rfl) (by kernel_rfl) rfl (by kernel_rfl) (by kernel_rfl) (fun W hW => by kernel_rfl) S0 (fun _ _ _ h => h) ?_
            simp only [Act.put, List.setIfInBounds_toArray, List.set_cons_zero, List.set_cons_succ]
            refine take_c (i := 3) (.pointer (some ⟨b, off + k * 2, none⟩)) 83 rfl (by kernel_rfl) (by kernel_rfl) (by kernel_rfl) (by kernel_rfl) (by kernel_rfl) rfl (by kernel_rfl) (by kernel_rfl) (fun W hW => nidx_run (.tmp 81) (.tmp 82) b off o f k (by kernel_rfl) (by kernel_rfl) (by kernel_rfl) hlt) S0 (fun _ _ _ h => h) ?_
            simp only [Act.put, List.setIfInBounds_toArray, List.set_cons_zero, List.set_cons_succ]
            refine take_c (i := 4) (.pointer (some ⟨b, off + k * 2, none⟩)) 84 rfl (by kernel_rfl) (by kernel_rfl) (by kernel_rfl) (by kernel_rfl) (by kernel_rfl) rfl (by kernel_rfl) (by kernel_rfl) (fun W hW => nfld0_run (.tmp 83) b (off + k * 2) (by kernel_rfl) (by kernel_rfl)) S0 (fun _ _ _ h => h) ?_
            simp only [Act.put, List.setIfInBounds_toArray, List.set_cons_zero, List.set_cons_succ]
            refine take_c (i := 5) (.string t) 85 rfl (by kernel_rfl) (by kernel_rfl) (by kernel_rfl) (by kernel_rfl) (by kernel_rfl) rfl (by kernel_rfl) (by kernel_rfl) (fun W hW => cell_run 9 (.tmp 84) ⟨b, off + k * 2, none⟩ (.string t) _ (by kernel_rfl) (by kernel_rfl) (HSt.out W hW).1 Try.underlying9 rfl (by kernel_rfl)) S0 (fun _ _ _ h => h) ?_
            simp only [Act.put, List.setIfInBounds_toArray, List.set_cons_zero, List.set_cons_succ]
            refine take_c (i := 6) (.slice (some ⟨b, off, none⟩) o f) 86 rfl (by kernel_rfl) (by kernel_rfl) (by kernel_rfl) (by kernel_rfl) (by kernel_rfl) rfl (by kernel_rfl) (by kernel_rfl) (fun W hW => by kernel_rfl) S0 (fun _ _ _ h => h) ?_
            simp only [Act.put, List.setIfInBounds_toArray, List.set_cons_zero, List.set_cons_succ]
            refine take_c (i := 7) (.int .i64 (k : Int)) 87 rfl (by kernel_rfl) (by kernel_rfl) (by kernel_rfl) (by kernel_rfl) (by kernel_rfl) rfl (by kernel_rfl) (by kernel_rfl) (fun W hW => by kernel_rfl) S0 (fun _ _ _ h => h) ?_
            simp only [Act.put, List.setIfInBounds_toArray, List.set_cons_zero, List.set_cons_succ]
            refine take_c (i := 8) (.pointer (some ⟨b, off + k * 2, none⟩)) 88 rfl (by kernel_rfl) (by kernel_rfl) (by kernel_rfl) (by kernel_rfl) (by kernel_rfl) rfl (by kernel_rfl) (by kernel_rfl) (fun W hW => nidx_run (.tmp 86) (.tmp 87) b off o f k (by kernel_rfl) (by kernel_rfl) (by kernel_rfl) hlt) S0 (fun _ _ _ h => h) ?_
            simp only [Act.put, List.setIfInBounds_toArray, List.set_cons_zero, List.set_cons_succ]
            refine take_c (i := 9) (.pointer (some ⟨b, off + k * 2 + 1, none⟩)) 89 rfl (by kernel_rfl) (by kernel_rfl) (by kernel_rfl) (by kernel_rfl) (by kernel_rfl) rfl (by kernel_rfl) (by kernel_rfl) (fun W hW => nfld1_run (.tmp 88) b (off + k * 2) (by kernel_rfl) (by kernel_rfl)) S0 (fun _ _ _ h => h) ?_
            simp only [Act.put, List.setIfInBounds_toArray, List.set_cons_zero, List.set_cons_succ]
            refine take_c (i := 10) (.slice pA mm pc) 90 rfl (by kernel_rfl) (by kernel_rfl) (by kernel_rfl) (by kernel_rfl) (by kernel_rfl) rfl (by kernel_rfl) (by kernel_rfl) (fun W hW => cell_run 33 (.tmp 89) ⟨b, off + k * 2 + 1, none⟩ (.slice pA mm pc) _ (by kernel_rfl) (by kernel_rfl) (HSt.out W hW).2 Try.underlying33 rfl (by kernel_rfl)) S0 (fun _ _ _ h => h) ?_
            simp only [Act.put, List.setIfInBounds_toArray, List.set_cons_zero, List.set_cons_succ]
            refine any_comes (i := 11) (by kernel_rfl) (op_enter 12 #[.pointer (some ⟨q, 0, none⟩), .string t, .slice pA mm pc] (some 91) rfl (by kernel_rfl) (by kernel_rfl) (by kernel_rfl) ((HAdd.out _ P0).mono ?_))
            rintro e z1 ⟨y, F', rfl, hT⟩
            have S1 := hT.out.ca.d1.below
            refine ⟨_, rfl, S1, ?_⟩
            simp only [Act.put, List.setIfInBounds_toArray, List.set_cons_zero, List.set_cons_succ]
            refine any_left (by kernel_rfl) ?_
            refine wpAny_tail 12 (by kernel_rfl) (by kernel_rfl) ?_
            simp only [List.drop_succ_cons, List.drop_zero, List.drop_nil]
            go_wp2
            obtain ⟨wa, hwa⟩ : ∃ x, x = z1 := ⟨_, rfl⟩
            rw [← hwa] at hT ⊢
            clear hwa S0 S1 P0
            have x5 := hT.out.v2.xv.cell 0
            have x5f := hT.out.v2.xv.frozen 0
            have x5l := hT.out.v2.xv.lt
            go_wp2
            have P1 : CV w wa.drew p F9 q F' R R10 A9 n9 c9 A1 n1 c1 G9 g2 G9 g1 := hT.out.up ⟨rfl, rfl, rfl, Nat.le_refl _, fun _ _ => rfl⟩
            have S0 : (Below w.heap.size w wa.drew ∧ wa.drew.cell? ⟨R10, 0, none⟩ = some (.slice A1 n1 c1)) := ⟨P1.ca.d1.below, P1.v2.xv.cell 0⟩
            refine region_T (fun W => (Below w.heap.size w W ∧ W.cell? ⟨R10, 0, none⟩ = some (.slice A1 n1 c1))) (fun j => decide (13 ≤ j)) (by kernel_rfl) ?_
            refine any_asT rfl (listed' := #[false, false, false, false, false, false, false, false, false, false, false, false, false, false, false, false]) (by kernel_rfl) ?_
            refine take_c (i := 0) (.agg #[.slice A1 n1 c1]) 93 rfl (by kernel_rfl) (by kernel_rfl) (by kernel_rfl) (by kernel_rfl) (by kernel_rfl) rfl (by kernel_rfl) (by kernel_rfl) (fun W hW => dagload_run (.tmp 10) R10 A1 n1 c1 (by kernel_rfl) (by kernel_rfl) hW.2) S0 (fun _ _ _ h => h) ?_
            simp only [Act.put, List.setIfInBounds_toArray, List.set_cons_zero, List.set_cons_succ]
            refine take_c (i := 1) (.slice (some ⟨b, off, none⟩) o f) 94 rfl (by kernel_rfl) (by kernel_rfl) (by kernel_rfl) (by kernel_rfl) (by kernel_rfl) rfl (by kernel_rfl) (by kernel_rfl) (fun W hW => by kernel_rfl) S0 (fun _ _ _ h => h) ?_
            simp only [Act.put, List.setIfInBounds_toArray, List.set_cons_zero, List.set_cons_succ]
            refine take_c (i := 2) (.int .i64 (k : Int)) 95 rfl (by kernel_rfl) (by kernel_rfl) (by kernel_rfl) (by kernel_rfl) (by kernel_rfl) rfl (by kernel_rfl) (by kernel_rfl) (fun W hW => by kernel_rfl) S0 (fun _ _ _ h => h) ?_
            simp only [Act.put, List.setIfInBounds_toArray, List.set_cons_zero, List.set_cons_succ]
            refine take_c (i := 3) (.pointer (some ⟨b, off + k * 2, none⟩)) 96 rfl (by kernel_rfl) (by kernel_rfl) (by kernel_rfl) (by kernel_rfl) (by kernel_rfl) rfl (by kernel_rfl) (by kernel_rfl) (fun W hW => nidx_run (.tmp 94) (.tmp 95) b off o f k (by kernel_rfl) (by kernel_rfl) (by kernel_rfl) hlt) S0 (fun _ _ _ h => h) ?_
            simp only [Act.put, List.setIfInBounds_toArray, List.set_cons_zero, List.set_cons_succ]
            refine take_c (i := 4) (.pointer (some ⟨b, off + k * 2, none⟩)) 97 rfl (by kernel_rfl) (by kernel_rfl) (by kernel_rfl) (by kernel_rfl) (by kernel_rfl) rfl (by kernel_rfl) (by kernel_rfl) (fun W hW => nfld0_run (.tmp 96) b (off + k * 2) (by kernel_rfl) (by kernel_rfl)) S0 (fun _ _ _ h => h) ?_
            simp only [Act.put, List.setIfInBounds_toArray, List.set_cons_zero, List.set_cons_succ]
            refine take_c (i := 5) (.string t) 98 rfl (by kernel_rfl) (by kernel_rfl) (by kernel_rfl) (by kernel_rfl) (by kernel_rfl) rfl (by kernel_rfl) (by kernel_rfl) (fun W hW => cell_run 9 (.tmp 97) ⟨b, off + k * 2, none⟩ (.string t) _ (by kernel_rfl) (by kernel_rfl) (HSt.out W hW.1).1 Try.underlying9 rfl (by kernel_rfl)) S0 (fun _ _ _ h => h) ?_
            simp only [Act.put, List.setIfInBounds_toArray, List.set_cons_zero, List.set_cons_succ]
            refine take_c (i := 6) (.slice (some ⟨b, off, none⟩) o f) 99 rfl (by kernel_rfl) (by kernel_rfl) (by kernel_rfl) (by kernel_rfl) (by kernel_rfl) rfl (by kernel_rfl) (by kernel_rfl) (fun W hW => by kernel_rfl) S0 (fun _ _ _ h => h) ?_
            simp only [Act.put, List.setIfInBounds_toArray, List.set_cons_zero, List.set_cons_succ]
            refine take_c (i := 7) (.int .i64 (k : Int)) 100 rfl (by kernel_rfl) (by kernel_rfl) (by kernel_rfl) (by kernel_rfl) (by kernel_rfl) rfl (by kernel_rfl) (by kernel_rfl) (fun W hW => by kernel_rfl) S0 (fun _ _ _ h => h) ?_
            simp only [Act.put, List.setIfInBounds_toArray, List.set_cons_zero, List.set_cons_succ]
            refine take_c (i := 8) (.pointer (some ⟨b, off + k * 2, none⟩)) 101 rfl (by kernel_rfl) (by kernel_rfl) (by kernel_rfl) (by kernel_rfl) (by kernel_rfl) rfl (by kernel_rfl) (by kernel_rfl) (fun W hW => nidx_run (.tmp 99) (.tmp 100) b off o f k (by kernel_rfl) (by kernel_rfl) (by kernel_rfl) hlt) S0 (fun _ _ _ h => h) ?_
            simp only [Act.put, List.setIfInBounds_toArray, List.set_cons_zero, List.set_cons_succ]
            refine take_c (i := 9) (.pointer (some ⟨b, off + k * 2 + 1, none⟩)) 102 rfl (by kernel_rfl) (by kernel_rfl) (by kernel_rfl) (by kernel_rfl) (by kernel_rfl) rfl (by kernel_rfl) (by kernel_rfl) (fun W hW => nfld1_run (.tmp 101) b (off + k * 2) (by kernel_rfl) (by kernel_rfl)) S0 (fun _ _ _ h => h) ?_
            simp only [Act.put, List.setIfInBounds_toArray, List.set_cons_zero, List.set_cons_succ]
            refine take_c (i := 10) (.slice pA mm pc) 103 rfl (by kernel_rfl) (by kernel_rfl) (by kernel_rfl) (by kernel_rfl) (by kernel_rfl) rfl (by kernel_rfl) (by kernel_rfl) (fun W hW => cell_run 33 (.tmp 102) ⟨b, off + k * 2 + 1, none⟩ (.slice pA mm pc) _ (by kernel_rfl) (by kernel_rfl) (HSt.out W hW.1).2 Try.underlying33 rfl (by kernel_rfl)) S0 (fun _ _ _ h => h) ?_
            simp only [Act.put, List.setIfInBounds_toArray, List.set_cons_zero, List.set_cons_succ]
            refine any_comes (i := 11) (by kernel_rfl) (op_enter 11 #[.agg #[.slice A1 n1 c1], .string t, .slice pA mm pc] (some 104) rfl (by kernel_rfl) (by kernel_rfl) (by kernel_rfl) ((HRA.out _ _ P1).mono ?_))
            rintro e z2 ⟨A3, n3, c3, y2, rfl, q2, b2⟩
            have b2' : Below wa.heap.size wa z2 := ⟨b2.out.os, b2.out.tape, b2.out.output, b2.out.size, b2.out.block⟩
            have P2 := hT.out.up b2'
            have S1 : (Below w.heap.size w z2 ∧ z2.cell? ⟨R10, 0, none⟩ = some (.slice A1 n1 c1)) := ⟨P2.ca.d1.below, P2.v2.xv.cell 0⟩
            refine ⟨_, rfl, S1, ?_⟩
            simp only [Act.put, List.setIfInBounds_toArray, List.set_cons_zero, List.set_cons_succ]
            refine take_c (i := 12) (.tuple #[.agg #[.slice A3 n3 c3], .int .i64 y2]) 92 rfl (by kernel_rfl) (by kernel_rfl) (by kernel_rfl) (by kernel_rfl) (by kernel_rfl) rfl (by kernel_rfl) (by kernel_rfl) (fun W hW => by kernel_rfl) S1 (fun _ _ _ h => h) ?_
            simp only [Act.put, List.setIfInBounds_toArray, List.set_cons_zero, List.set_cons_succ]
            have x6 := P2.v2.xv.cell 0
            have x6f := P2.v2.xv.frozen 0
            have x6l := P2.v2.xv.lt
            refine any_left (by kernel_rfl) ?_
            refine take_p (i := 13) (.agg #[.slice A3 n3 c3]) 105 rfl (by kernel_rfl) (by kernel_rfl) (by kernel_rfl) (by kernel_rfl) (by kernel_rfl) (fun W => by kernel_rfl) (fun _ _ _ h => h) ?_
            simp only [Act.put, List.setIfInBounds_toArray, List.set_cons_zero, List.set_cons_succ]
            refine take_p (i := 14) (.int .i64 y2) 106 rfl (by kernel_rfl) (by kernel_rfl) (by kernel_rfl) (by kernel_rfl) (by kernel_rfl) (fun W => by kernel_rfl) (fun _ _ _ h => h) ?_
            simp only [Act.put, List.setIfInBounds_toArray, List.set_cons_zero, List.set_cons_succ]
            refine wpAny_tail 15 (by kernel_rfl) (by kernel_rfl) ?_
            simp only [List.append, List.append_eq, List.drop_succ_cons, List.drop_zero, List.drop_nil]
            go_wp2
            go_roundw
            case rel => exact ⟨k + 1, F', A3, n3, c3, hlt, congrArg (Value.int .i64) (next64 hlt HN30.out), by rw [← HMk.out]; exact hT.out.store2 (show Below wa.heap.size wa z2 from b2') q2.out⟩
            case measure => exact less64 hlt HN30.out
          · have d0 : decide ((k : Int) < (o : Int)) = false := decide_eq_false (by omega)
            obtain ⟨H9, hH9⟩ : ∃ g, g = makeF G lb k := ⟨_, rfl⟩
            have HH9 : Hid (GrOk H9 ∧ H9.length ≤ 1000 ∧ ∀ j, j < H9.length → (H9.getD j nd0).preds.length ≤ 1000) := by
              show _ ∧ _ ∧ _
              rw [hH9]
              exact ⟨makeF_ok ok.out lb k, by have := makeF_len G lb k; have := HGL.out.1; have := HO.out; have := HFB.out.1; omega, makeF_preds HGL.out.2 HFB.out k⟩
            rw [← hH9] at hS
            clear hH9 hS2 HL2
            have HAl1 : Hid (∀ W, Hid (CV w W p F9 q F1 R R10 A9 n9 c9 A1 n1 c1 G9 H9 G9 H9) → Calls Try.prog 13 #[.pointer (some ⟨p, 0, none⟩), .agg #[.slice A9 n9 c9]] W fun e w' => e = .returned (.bool true) ∧ Hid (CV w w' p F9 q F1 R R10 A9 n9 c9 A1 n1 c1 G9 H9 G9 H9)) := fun W h => (alike_any h.out.ca.d1 (h.out.v1.rh.sub fun _ h => .inl h) HG9.out.1 HG9.out.2.1 HG9.out.2.2 c9).mono fun e w' hh => ⟨hh.1, h.out.up hh.2⟩
            have HAl2 : Hid (∀ W, Hid (CV w W p F9 q F1 R R10 A9 n9 c9 A1 n1 c1 G9 H9 G9 H9) → Calls Try.prog 13 #[.pointer (some ⟨q, 0, none⟩), .agg #[.slice A1 n1 c1]] W fun e w' => e = .returned (.bool true) ∧ Hid (Below w.heap.size w w')) := fun W h => (alike_any h.out.ca.d2 (h.out.v2.rh.sub fun _ h => .inr h) HH9.out.1 HH9.out.2.1 HH9.out.2.2 c1).mono fun e w' hh => ⟨hh.1, (h.out.up hh.2).ca.d1.below⟩
            have HId : Hid (∀ W, Hid (CV w W p F9 q F1 R R10 A9 n9 c9 A1 n1 c1 G9 H9 G9 H9) → Calls Try.prog 33 #[.int .u8 1] W fun e w' => e = .returned (.string (text (idB 1))) ∧ Hid (CV w w' p F9 q F1 R R10 A9 n9 c9 A1 n1 c1 G9 H9 G9 H9)) := fun W h => (lawid_any 1 1 rfl W).mono fun e w' hh => ⟨hh.1, h.out.up hh.2⟩
            obtain ⟨ti, hti⟩ : ∃ t, t = text (idB 1) := ⟨_, rfl⟩
            rw [← hti] at HId
            clear hti
            have HnA : Hid (∀ W, Hid (Below w.heap.size w W) → Calls Try.prog 12 #[.pointer none, .string ti, .slice none 0 0] W fun e w' => e = .returned (.int .i64 8) ∧ Hid (Below w.heap.size w w')) := fun W h => (dagadd_none ti none 0 0 W).mono fun e w' hh => ⟨hh.1, h.out.trans (hh.2.mono h.out.size)⟩
            have HnH : Hid (∀ W, Hid (Below w.heap.size w W) → Calls Try.prog 18 #[.pointer none, .string ti] W fun e w' => e = .returned (.bool false) ∧ Hid (Below w.heap.size w w')) := fun W h => (daghas_none ti W).mono fun e w' hh => ⟨hh.1, h.out.trans (hh.2.mono h.out.size)⟩
            have HnL : Hid (∀ W, Hid (Below w.heap.size w W) → Calls Try.prog 30 #[.pointer none] W fun e w' => e = .returned (.int .i64 0) ∧ Hid (Below w.heap.size w w')) := fun W h => (daglen_none W).mono fun e w' hh => ⟨hh.1, h.out.trans (hh.2.mono h.out.size)⟩
            have HnP : Hid (∀ W, Hid (Below w.heap.size w W) → Calls Try.prog 22 #[.pointer none, .string ti] W fun e w' => ∃ A c, e = .returned (.slice A 0 c) ∧ Hid (Below w.heap.size w w')) := fun W h => (dagpreds_none ti W).mono fun e w' hh => by
              obtain ⟨A, c, q1, _, _, _, q5⟩ := hh
              exact ⟨A, c, q1, h.out.trans (q5.mono h.out.size)⟩
            have HnK : Hid (∀ W, Hid (Below w.heap.size w W) → Calls Try.prog 24 #[.pointer none, .string ti] W fun e w' => ∃ A c, e = .returned (.slice A 0 c) ∧ Hid (Below w.heap.size w w')) := fun W h => (dagkids_none ti W).mono fun e w' hh => by
              obtain ⟨A, c, q1, _, _, _, q5⟩ := hh
              exact ⟨A, c, q1, h.out.trans (q5.mono h.out.size)⟩
            have HnE : Hid (∀ W, Hid (Below w.heap.size w W) → Calls Try.prog 34 #[.pointer none] W fun e w' => ∃ A c, e = .returned (.slice A 0 c) ∧ Hid (Below w.heap.size w w')) := fun W h => (dagheads_none W).mono fun e w' hh => by
              obtain ⟨A, c, q1, _, _, _, q5⟩ := hh
              exact ⟨A, c, q1, h.out.trans (q5.mono h.out.size)⟩
            have HnD : Hid (∀ W, Hid (Below w.heap.size w W) → Calls Try.prog 20 #[.pointer none, .string ti] W fun e w' => e = .returned (.int .i64 0) ∧ Hid (Below w.heap.size w w')) := fun W h => (dagdepth_none ti W).mono fun e w' hh => ⟨hh.1, h.out.trans (hh.2.mono h.out.size)⟩
            have HnO : Hid (∀ W, Hid (Below w.heap.size w W) → Calls Try.prog 28 #[.pointer none] W fun e w' => ∃ A c, e = .returned (.slice A 0 c) ∧ Hid (Below w.heap.size w w')) := fun W h => (dagorder_none W).mono fun e w' hh => by
              obtain ⟨A, c, q1, _, _, _, q5⟩ := hh
              exact ⟨A, c, q1, h.out.trans (q5.mono h.out.size)⟩
            have HnB : Hid (∀ W, Hid (Below w.heap.size w W) → Calls Try.prog 26 #[.pointer none, .string ti, .string ti] W fun e w' => e = .returned (.bool false) ∧ Hid (Below w.heap.size w w')) := fun W h => (dagahead_none ti ti W).mono fun e w' hh => ⟨hh.1, h.out.trans (hh.2.mono h.out.size)⟩
            have HnC : Hid (∀ W, Hid (Below w.heap.size w W) → Calls Try.prog 32 #[.pointer none] W fun e w' => e = .returned (.pointer none) ∧ Hid (Below w.heap.size w w')) := fun W h => (dagclone_none W).mono fun e w' hh => ⟨hh.1, h.out.trans (hh.2.mono h.out.size)⟩
            have HnQ : Hid (∀ W, Hid (Below w.heap.size w W) → Calls Try.prog 16 #[.pointer none, .slice (some ⟨W.heap.size, 0, none⟩) 1 1] (W.alloc (.cells #[.string ti] 9)) fun e w' => ∃ A c, e = .returned (.slice A 0 c) ∧ Hid (Below w.heap.size w w')) := fun W h => (dagpast_none (some ⟨W.heap.size, 0, none⟩) 1 1 _).mono fun e w' hh => by
              obtain ⟨A, c, q1, _, _, _, q5⟩ := hh
              have q6 : Below w.heap.size w (W.alloc (.cells #[.string ti] 9)) := h.out.alloc h.out.size _
              exact ⟨A, c, q1, q6.trans (q5.mono q6.size)⟩
            have y4 := hS.out.v1.xv.cell 0
            have y10 := hS.out.v2.xv.cell 0
            go_wp2_with (first
              | (go_at_call 33; (with_reducible refine (HId.out _ (by assumption)).mono ?_); rintro e z ⟨rfl, hc⟩; have y4 := hc.out.v1.xv.cell 0; have y10 := hc.out.v2.xv.cell 0)
              | (go_at_call 13; (with_reducible refine (HAl1.out _ (by assumption)).mono ?_); rintro e z ⟨rfl, hc⟩; have y4 := hc.out.v1.xv.cell 0; have y10 := hc.out.v2.xv.cell 0)
              | (go_at_call 13; (with_reducible refine (HAl2.out _ (by assumption)).mono ?_); rintro e z ⟨rfl, hz⟩)
              | (go_at_call 10; (with_reducible refine (HAw.out _ (by assumption)).mono ?_); rintro e z ⟨rfl, hz⟩)
              | (go_at_call 12; (with_reducible refine (HnA.out _ (by assumption)).mono ?_); rintro e z ⟨rfl, hz⟩)
              | (go_at_call 18; (with_reducible refine (HnH.out _ (by assumption)).mono ?_); rintro e z ⟨rfl, hz⟩)
              | (go_at_call 30; (with_reducible refine (HnL.out _ (by assumption)).mono ?_); rintro e z ⟨rfl, hz⟩)
              | (go_at_call 22; (with_reducible refine (HnP.out _ (by assumption)).mono ?_); rintro e z ⟨A7, c7, rfl, hz⟩)
              | (go_at_call 24; (with_reducible refine (HnK.out _ (by assumption)).mono ?_); rintro e z ⟨A7, c7, rfl, hz⟩)
              | (go_at_call 34; (with_reducible refine (HnE.out _ (by assumption)).mono ?_); rintro e z ⟨A7, c7, rfl, hz⟩)
              | (go_at_call 20; (with_reducible refine (HnD.out _ (by assumption)).mono ?_); rintro e z ⟨rfl, hz⟩)
              | (go_at_call 28; (with_reducible refine (HnO.out _ (by assumption)).mono ?_); rintro e z ⟨A7, c7, rfl, hz⟩)
              | (go_at_call 26; (with_reducible refine (HnB.out _ (by assumption)).mono ?_); rintro e z ⟨rfl, hz⟩)
              | (go_at_call 32; (with_reducible refine (HnC.out _ (by assumption)).mono ?_); rintro e z ⟨rfl, hz⟩)
              | (go_at_call 16; (with_reducible refine (HnQ.out _ (by assumption)).mono ?_); rintro e z ⟨A7, c7, rfl, hz⟩))
            go_ret
            exact ⟨rfl, hz.out⟩
  · have P1 := AV.alloc P0
    have S1 : (Below w.heap.size w (wm.drew.alloc (.cells #[.slice none 0 0] 27)) ∧ (wm.drew.alloc (.cells #[.slice none 0 0] 27)).cell? ⟨R, 0, none⟩ = some (.slice A' n' c')) := ⟨P1.dh.below, P1.v.xv.cell 0⟩
    refine op_value (.pointer (some ⟨wm.heap.size, 0, none⟩)) rfl (by kernel_rfl) (w' := wm.drew.alloc (.cells #[.slice none 0 0] 27)) (by kernel_rfl) rfl ⟨S1, ?_⟩
    simp only [Act.put, List.setIfInBounds_toArray, List.set_cons_zero, List.set_cons_succ]
    refine any_comes (i := 1) (by kernel_rfl) (op_enter 32 #[.pointer (some ⟨p, 0, none⟩)] (some 37) rfl (by kernel_rfl) (by kernel_rfl) (by kernel_rfl) ((HCl.out _ P1.dh).mono ?_))
    rintro e z1 ⟨q, F2, rfl, hP, hF, hb⟩
    have P2 : CY w z1 p F q F2 R wm.heap.size A' n' c' G := CY.ofB P1 hP.out hF.out hb.out
    have S2 : (Below w.heap.size w z1 ∧ z1.cell? ⟨R, 0, none⟩ = some (.slice A' n' c')) := ⟨P2.ca.d1.below, P2.v1.xv.cell 0⟩
    refine ⟨_, rfl, S2, ?_⟩
    simp only [Act.put, List.setIfInBounds_toArray, List.set_cons_zero, List.set_cons_succ]
    refine take_c (i := 4) (.pointer (some ⟨q, 0, none⟩)) 9 rfl (by kernel_rfl) (by kernel_rfl) (by kernel_rfl) (by kernel_rfl) (by kernel_rfl) rfl (by kernel_rfl) (by kernel_rfl) (fun W hW => by kernel_rfl) S2 (fun _ _ _ h => h) ?_
    simp only [Act.put, List.setIfInBounds_toArray, List.set_cons_zero, List.set_cons_succ]
    obtain ⟨R10, hR10⟩ : ∃ x, x = wm.heap.size := ⟨_, rfl⟩
    obtain ⟨W2, hW2⟩ : ∃ x, x = z1 := ⟨_, rfl⟩
    rw [← hR10, ← hW2] at P2 ⊢
    have hY := Lib.hid P2
    clear P2 S2 S1 S0 P0 P1 hP hF hb hR10 hW2 hS HCl
    refine any_left (by kernel_rfl) ?_
    have y6 := hY.out.y.cell 0
    have y6f := hY.out.y.frozen 0
    have y6l := hY.out.y.lt
    have hS2 : Hid (CV w (W2.setCell ⟨R10, 0, none⟩ (.slice A' n' c')) p F q F2 R R10 A' n' c' A' n' c' (makeF G la 0) G (makeF G la 0) G) := hY.out.stored
    clear hY
    refine wpAny_tail 5 (by kernel_rfl) (by kernel_rfl) ?_
    simp only [List.append, List.append_eq, List.drop_succ_cons, List.drop_zero, List.drop_nil]
    go_wp2
    clear y6 y6f y6l
    go_loopw [11] (fun v wr => ∃ (k : Nat) (F1 : Nat → Prop) (A1 : Option Addr) (n1 c1 : Nat), k ≤ m ∧ v = .int .i64 (k : Int) ∧ Hid (CV w wr p F1 q F2 R R10 A1 n1 c1 A' n' c' (makeF G la k) G (makeF G la k) G)) (fun v _ => m - (intOf v).toNat)
    case atStart => exact ⟨0, _, _, _, _, Nat.zero_le _, rfl, hS2.out⟩
    case round =>
      obtain ⟨k, F1, A1, n1, c1, hk, rfl, hS⟩ := hrel
      by_cases hlt : k < m
      · have d0 : decide ((k : Int) < (m : Int)) = true := decide_eq_true (by omega)
        have hkl : k < la.length := by have := HM.out; omega
        have HN30 : Hid (m = la.length ∧ m ≤ 1000) := ⟨HM.out, by have := HM.out; have := HFA.out.1; omega⟩
        obtain ⟨b, off, rfl, hb, hc⟩ := HL1.out (by omega)
        obtain ⟨pA, pc, hs, hcap, hc0, hc1⟩ := hc k hkl
        obtain ⟨f1, f2, f3⟩ := HFA.out.2 k hkl
        have hMk : makeF G la (k + 1) = (addG (makeF G la k) (la.getD k nd0).id (la.getD k nd0).preds).1 := rfl
        obtain ⟨x, hx⟩ : ∃ x, x = (la.getD k nd0).id := ⟨_, rfl⟩
        obtain ⟨ps, hps⟩ : ∃ x, x = (la.getD k nd0).preds := ⟨_, rfl⟩
        rw [← hx] at hc0 f1 hMk
        rw [← hps] at hs hcap hc1 f2 hMk
        obtain ⟨t, ht⟩ : ∃ t, t = text x := ⟨_, rfl⟩
        obtain ⟨mm, hm⟩ : ∃ m, m = ps.length := ⟨_, rfl⟩
        rw [← ht] at hc0
        rw [← hm] at hc1 hcap f2
        have HSt : Hid (∀ W, Below w.heap.size w W → W.cell? ⟨b, off + k * 2, none⟩ = some (.string t) ∧ W.cell? ⟨b, off + k * 2 + 1, none⟩ = some (.slice pA mm pc)) := fun W hW => ⟨(hW.cell (p := ⟨b, off + k * 2, none⟩) hb).trans hc0, (hW.cell (p := ⟨b, off + k * 2 + 1, none⟩) hb).trans hc1⟩
        obtain ⟨g1, hg⟩ : ∃ g, g = makeF G la k := ⟨_, rfl⟩
        have hok : GrOk g1 := by rw [hg]; exact makeF_ok ok.out _ k
        have hgl : g1.length ≤ 1000 := by have := makeF_len G la k; have := HN30.out; have := HGL.out.1; have := HFA.out.1; rw [hg]; omega
        obtain ⟨g2, hg2⟩ : ∃ g, g = makeF G la (k + 1) := ⟨_, rfl⟩
        rw [← hg] at hMk hS
        rw [← hg2] at hMk
        have HAdd : Hid (∀ W, CV w W p F1 q F2 R R10 A1 n1 c1 A' n' c' g1 G g1 G → Calls Try.prog 12 #[.pointer (some ⟨p, 0, none⟩), .string t, .slice pA mm pc] W fun e w' => ∃ (y : Int) (F' : Nat → Prop), e = .returned (.int .i64 y) ∧ Hid (CV w w' p F' q F2 R R10 A1 n1 c1 A' n' c' g2 G g1 G)) := fun W hW => by
          rw [ht]
          refine (dagadd_any hW.ca.d1.dag hok hgl x ps pA mm pc (by omega) hm ((hs.below hW.ca.d1.below).more hW.ca.d1.below.size) (fun h0 ad e hf => ?_) (by omega) hcap.1 hcap.2).mono fun e w' hh => ?_
          · obtain ⟨pb, po, e2, h2, -⟩ := hs.at_ (by omega)
            rw [e2] at e
            injection e with e
            have h3 := hW.ca.d1.own _ hf
            rw [← e] at h3
            have h3 : w.heap.size ≤ pb := h3
            omega
          · obtain ⟨q1, F', q2, q3⟩ := hh
            exact ⟨_, F', q1, hW.turned1 (by rw [hMk]; exact q2.out) q3.out⟩
        have HRA : Hid (∀ W F', CV w W p F' q F2 R R10 A1 n1 c1 A' n' c' g2 G g1 G → Calls Try.prog 11 #[.agg #[.slice A1 n1 c1], .string t, .slice pA mm pc] W fun e w' => ∃ (A3 : Option Addr) (n3 c3 : Nat) (y : Int), e = .returned (.tuple #[.agg #[.slice A3 n3 c3], .int .i64 y]) ∧ Hid (RH w w' (fun k => F' k ∨ F2 k) A3 n3 g2) ∧ Hid (Below W.heap.size W w')) := fun W F' hW => by
          rw [ht, hMk]
          refine (radds_any hW.v1.rh hW.ca.d1.below (fun k hk => hk.elim (hW.ca.d1.flt k) (hW.ca.d2.flt k)) hgl c1 x ps pA mm pc hm hs (by omega) hcap.1 hcap.2).mono fun e w' hh => ?_
          obtain ⟨A3, n3, c3, q1, q2, q3⟩ := hh
          exact ⟨A3, n3, c3, _, q1, q2, q3⟩
        have HMk := Lib.hid hg2
        clear hx hps ht hm hs hcap hc0 hc1 hc hb hkl f1 f2 f3 hMk hg hg2 hok hgl hS2
        go_wp2
        have P0 : CV w wr.drew p F1 q F2 R R10 A1 n1 c1 A' n' c' g1 G g1 G := hS.out.up ⟨rfl, rfl, rfl, Nat.le_refl _, fun _ _ => rfl⟩
        have S0 : Below w.heap.size w wr.drew := P0.ca.d1.below
        refine region_T (fun W => Below w.heap.size w W) (fun j => decide (12 ≤ j)) (by kernel_rfl) ?_
        refine any_asT rfl (listed' := #[false, false, false, false, false, false, false, false, false, false, false, false]) (by kernel_rfl) ?_
        refine take_c (i := 0) (.pointer (some ⟨p, 0, none⟩)) 47 rfl (by kernel_rfl) (by kernel_rfl) (by kernel_rfl) (by kernel_rfl) (by kernel_rfl) rfl (by kernel_rfl) (by kernel_rfl) (fun W hW => by kernel_rfl) S0 (fun _ _ _ h => h) ?_
        simp only [Act.put, List.setIfInBounds_toArray, List.set_cons_zero, List.set_cons_succ]
        refine take_c (i := 1) (.slice (some ⟨b, off, none⟩) m d) 48 rfl (by kernel_rfl) (by kernel_rfl) (by kernel_rfl) (by kernel_rfl) (by kernel_rfl) rfl (by kernel_rfl) (by kernel_rfl) (fun W hW => by kernel_rfl) S0 (fun _ _ _ h => h) ?_
        simp only [Act.put, List.setIfInBounds_toArray, List.set_cons_zero, List.set_cons_succ]
        refine take_c (i := 2) (.int .i64 (k : Int)) 49 rfl (by kernel_rfl) (by kernel_rfl) (by kernel_rfl) (by kernel_rfl) (by kernel_rfl) rfl (by kernel_rfl) (by kernel_rfl) (fun W hW => by kernel_rfl) S0 (fun _ _ _ h => h) ?_
        simp only [Act.put, List.setIfInBounds_toArray, List.set_cons_zero, List.set_cons_succ]
        refine take_c (i := 3) (.pointer (some ⟨b, off + k * 2, none⟩)) 50 rfl (by kernel_rfl) (by kernel_rfl) (by kernel_rfl) (by kernel_rfl) (by kernel_rfl) rfl (by kernel_rfl) (by kernel_rfl) (fun W hW => nidx_run (.tmp 48) (.tmp 49) b off m d k (by kernel_rfl) (by kernel_rfl) (by kernel_rfl) hlt) S0 (fun _ _ _ h => h) ?_
        simp only [Act.put, List.setIfInBounds_toArray, List.set_cons_zero, List.set_cons_succ]
        refine take_c (i := 4) (.pointer (some ⟨b, off + k * 2, none⟩)) 51 rfl (by kernel_rfl) (by kernel_rfl) (by kernel_rfl) (by kernel_rfl) (by kernel_rfl) rfl (by kernel_rfl) (by kernel_rfl) (fun W hW => nfld0_run (.tmp 50) b (off + k * 2) (by kernel_rfl) (by kernel_rfl)) S0 (fun _ _ _ h => h) ?_
        simp only [Act.put, List.setIfInBounds_toArray, List.set_cons_zero, List.set_cons_succ]
        refine take_c (i := 5) (.string t) 52 rfl (by kernel_rfl) (by kernel_rfl) (by kernel_rfl) (by kernel_rfl) (by kernel_rfl) rfl (by kernel_rfl) (by kernel_rfl) (fun W hW => cell_run 9 (.tmp 51) ⟨b, off + k * 2, none⟩ (.string t) _ (by kernel_rfl) (by kernel_rfl) (HSt.out W hW).1 Try.underlying9 rfl (by kernel_rfl)) S0 (fun _ _ _ h => h) ?_
        simp only [Act.put, List.setIfInBounds_toArray, List.set_cons_zero, List.set_cons_succ]
        refine take_c (i := 6) (.slice (some ⟨b, off, none⟩) m d) 53 rfl (by kernel_rfl) (by kernel_rfl) (by kernel_rfl) (by kernel_rfl) (by kernel_rfl) rfl (by kernel_rfl) (by kernel_rfl) (fun W hW => by kernel_rfl) S0 (fun _ _ _ h => h) ?_
        simp only [Act.put, List.setIfInBounds_toArray, List.set_cons_zero, List.set_cons_succ]
        refine take_c (i := 7) (.int .i64 (k : Int)) 54 rfl (by kernel_rfl) (by kernel_rfl) (by kernel_rfl) (by kernel_rfl) (by kernel_rfl) rfl (by kernel_rfl) (by kernel_rfl) (fun W hW => by kernel_rfl) S0 (fun _ _ _ h => h) ?_
        simp only [Act.put, List.setIfInBounds_toArray, List.set_cons_zero, List.set_cons_succ]
        refine take_c (i := 8) (.pointer (some ⟨b, off + k * 2, none⟩)) 55 rfl (by kernel_rfl) (by kernel_rfl) (by kernel_rfl) (by kernel_rfl) (by kernel_rfl) rfl (by kernel_rfl) (by kernel_rfl) (fun W hW => nidx_run (.tmp 53) (.tmp 54) b off m d k (by kernel_rfl) (by kernel_rfl) (by kernel_rfl) hlt) S0 (fun _ _ _ h => h) ?_
        simp only [Act.put, List.setIfInBounds_toArray, List.set_cons_zero, List.set_cons_succ]
        refine take_c (i := 9) (.pointer (some ⟨b, off + k * 2 + 1, none⟩)) 56 rfl (by kernel_rfl) (by kernel_rfl) (by kernel_rfl) (by kernel_rfl) (by kernel_rfl) rfl (by kernel_rfl) (by kernel_rfl) (fun W hW => nfld1_run (.tmp 55) b (off + k * 2) (by kernel_rfl) (by kernel_rfl)) S0 (fun _ _ _ h => h) ?_
        simp only [Act.put, List.setIfInBounds_toArray, List.set_cons_zero, List.set_cons_succ]
        refine take_c (i := 10) (.slice pA mm pc) 57 rfl (by kernel_rfl) (by kernel_rfl) (by kernel_rfl) (by kernel_rfl) (by kernel_rfl) rfl (by kernel_rfl) (by kernel_rfl) (fun W hW => cell_run 33 (.tmp 56) ⟨b, off + k * 2 + 1, none⟩ (.slice pA mm pc) _ (by kernel_rfl) (by kernel_rfl) (HSt.out W hW).2 Try.underlying33 rfl (by kernel_rfl)) S0 (fun _ _ _ h => h) ?_
        simp only [Act.put, List.setIfInBounds_toArray, List.set_cons_zero, List.set_cons_succ]
        refine any_comes (i := 11) (by kernel_rfl) (op_enter 12 #[.pointer (some ⟨p, 0, none⟩), .string t, .slice pA mm pc] (some 58) rfl (by kernel_rfl) (by kernel_rfl) (by kernel_rfl) ((HAdd.out _ P0).mono ?_))
        rintro e z1 ⟨y, F', rfl, hT⟩
        have S1 := hT.out.ca.d1.below
        refine ⟨_, rfl, S1, ?_⟩
        simp only [Act.put, List.setIfInBounds_toArray, List.set_cons_zero, List.set_cons_succ]
        refine any_left (by kernel_rfl) ?_
        refine wpAny_tail 12 (by kernel_rfl) (by kernel_rfl) ?_
        simp only [List.drop_succ_cons, List.drop_zero, List.drop_nil]
        go_wp2
        obtain ⟨wa, hwa⟩ : ∃ x, x = z1 := ⟨_, rfl⟩
        rw [← hwa] at hT ⊢
        clear hwa S0 S1 P0
        have x5 := hT.out.v1.xv.cell 0
        have x5f := hT.out.v1.xv.frozen 0
        have x5l := hT.out.v1.xv.lt
        go_wp2
        have P1 : CV w wa.drew p F' q F2 R R10 A1 n1 c1 A' n' c' g2 G g1 G := hT.out.up ⟨rfl, rfl, rfl, Nat.le_refl _, fun _ _ => rfl⟩
        have S0 : (Below w.heap.size w wa.drew ∧ wa.drew.cell? ⟨R, 0, none⟩ = some (.slice A1 n1 c1)) := ⟨P1.ca.d1.below, P1.v1.xv.cell 0⟩
        refine region_T (fun W => (Below w.heap.size w W ∧ W.cell? ⟨R, 0, none⟩ = some (.slice A1 n1 c1))) (fun j => decide (13 ≤ j)) (by kernel_rfl) ?_
        refine any_asT rfl (listed' := #[false, false, false, false, false, false, false, false, false, false, false, false, false, false, false, false]) (by kernel_rfl) ?_
        refine take_c (i := 0) (.agg #[.slice A1 n1 c1]) 60 rfl (by kernel_rfl) (by kernel_rfl) (by kernel_rfl) (by kernel_rfl) (by kernel_rfl) rfl (by kernel_rfl) (by kernel_rfl) (fun W hW => dagload_run (.tmp 8) R A1 n1 c1 (by kernel_rfl) (by kernel_rfl) hW.2) S0 (fun _ _ _ h => h) ?_
        simp only [Act.put, List.setIfInBounds_toArray, List.set_cons_zero, List.set_cons_succ]
        refine take_c (i := 1) (.slice (some ⟨b, off, none⟩) m d) 61 rfl (by kernel_rfl) (by kernel_rfl) (by kernel_rfl) (by kernel_rfl) (by kernel_rfl) rfl (by kernel_rfl) (by kernel_rfl) (fun W hW => by kernel_rfl) S0 (fun _ _ _ h => h) ?_
        simp only [Act.put, List.setIfInBounds_toArray, List.set_cons_zero, List.set_cons_succ]
        refine take_c (i := 2) (.int .i64 (k : Int)) 62 rfl (by kernel_rfl) (by kernel_rfl) (by kernel_rfl) (by kernel_rfl) (by kernel_rfl) rfl (by kernel_rfl) (by kernel_rfl) (fun W hW => by kernel_rfl) S0 (fun _ _ _ h => h) ?_
        simp only [Act.put, List.setIfInBounds_toArray, List.set_cons_zero, List.set_cons_succ]
        refine take_c (i := 3) (.pointer (some ⟨b, off + k * 2, none⟩)) 63 rfl (by kernel_rfl) (by kernel_rfl) (by kernel_rfl) (by kernel_rfl) (by kernel_rfl) rfl (by kernel_rfl) (by kernel_rfl) (fun W hW => nidx_run (.tmp 61) (.tmp 62) b off m d k (by kernel_rfl) (by kernel_rfl) (by kernel_rfl) hlt) S0 (fun _ _ _ h => h) ?_
        simp only [Act.put, List.setIfInBounds_toArray, List.set_cons_zero, List.set_cons_succ]
        refine take_c (i := 4) (.pointer (some ⟨b, off + k * 2, none⟩)) 64 rfl (by kernel_rfl) (by kernel_rfl) (by kernel_rfl) (by kernel_rfl) (by kernel_rfl) rfl (by kernel_rfl) (by kernel_rfl) (fun W hW => nfld0_run (.tmp 63) b (off + k * 2) (by kernel_rfl) (by kernel_rfl)) S0 (fun _ _ _ h => h) ?_
        simp only [Act.put, List.setIfInBounds_toArray, List.set_cons_zero, List.set_cons_succ]
        refine take_c (i := 5) (.string t) 65 rfl (by kernel_rfl) (by kernel_rfl) (by kernel_rfl) (by kernel_rfl) (by kernel_rfl) rfl (by kernel_rfl) (by kernel_rfl) (fun W hW => cell_run 9 (.tmp 64) ⟨b, off + k * 2, none⟩ (.string t) _ (by kernel_rfl) (by kernel_rfl) (HSt.out W hW.1).1 Try.underlying9 rfl (by kernel_rfl)) S0 (fun _ _ _ h => h) ?_
        simp only [Act.put, List.setIfInBounds_toArray, List.set_cons_zero, List.set_cons_succ]
        refine take_c (i := 6) (.slice (some ⟨b, off, none⟩) m d) 66 rfl (by kernel_rfl) (by kernel_rfl) (by kernel_rfl) (by kernel_rfl) (by kernel_rfl) rfl (by kernel_rfl) (by kernel_rfl) (fun W hW => by kernel_rfl) S0 (fun _ _ _ h => h) ?_
        simp only [Act.put, List.setIfInBounds_toArray, List.set_cons_zero, List.set_cons_succ]
        refine take_c (i := 7) (.int .i64 (k : Int)) 67 rfl (by kernel_rfl) (by kernel_rfl) (by kernel_rfl) (by kernel_rfl) (by kernel_rfl) rfl (by kernel_rfl) (by kernel_rfl) (fun W hW => by kernel_rfl) S0 (fun _ _ _ h => h) ?_
        simp only [Act.put, List.setIfInBounds_toArray, List.set_cons_zero, List.set_cons_succ]
        refine take_c (i := 8) (.pointer (some ⟨b, off + k * 2, none⟩)) 68 rfl (by kernel_rfl) (by kernel_rfl) (by kernel_rfl) (by kernel_rfl) (by kernel_rfl) rfl (by kernel_rfl) (by kernel_rfl) (fun W hW => nidx_run (.tmp 66) (.tmp 67) b off m d k (by kernel_rfl) (by kernel_rfl) (by kernel_rfl) hlt) S0 (fun _ _ _ h => h) ?_
        simp only [Act.put, List.setIfInBounds_toArray, List.set_cons_zero, List.set_cons_succ]
        refine take_c (i := 9) (.pointer (some ⟨b, off + k * 2 + 1, none⟩)) 69 rfl (by kernel_rfl) (by kernel_rfl) (by kernel_rfl) (by kernel_rfl) (by kernel_rfl) rfl (by kernel_rfl) (by kernel_rfl) (fun W hW => nfld1_run (.tmp 68) b (off + k * 2) (by kernel_rfl) (by kernel_rfl)) S0 (fun _ _ _ h => h) ?_
        simp only [Act.put, List.setIfInBounds_toArray, List.set_cons_zero, List.set_cons_succ]
        refine take_c (i := 10) (.slice pA mm pc) 70 rfl (by kernel_rfl) (by kernel_rfl) (by kernel_rfl) (by kernel_rfl) (by kernel_rfl) rfl (by kernel_rfl) (by kernel_rfl) (fun W hW => cell_run 33 (.tmp 69) ⟨b, off + k * 2 + 1, none⟩ (.slice pA mm pc) _ (by kernel_rfl) (by kernel_rfl) (HSt.out W hW.1).2 Try.underlying33 rfl (by kernel_rfl)) S0 (fun _ _ _ h => h) ?_
        simp only [Act.put, List.setIfInBounds_toArray, List.set_cons_zero, List.set_cons_succ]
        refine any_comes (i := 11) (by kernel_rfl) (op_enter 11 #[.agg #[.slice A1 n1 c1], .string t, .slice pA mm pc] (some 71) rfl (by kernel_rfl) (by kernel_rfl) (by kernel_rfl) ((HRA.out _ _ P1).mono ?_))
        rintro e z2 ⟨A3, n3, c3, y2, rfl, q2, b2⟩
        have b2' : Below wa.heap.size wa z2 := ⟨b2.out.os, b2.out.tape, b2.out.output, b2.out.size, b2.out.block⟩
        have P2 := hT.out.up b2'
        have S1 : (Below w.heap.size w z2 ∧ z2.cell? ⟨R, 0, none⟩ = some (.slice A1 n1 c1)) := ⟨P2.ca.d1.below, P2.v1.xv.cell 0⟩
        refine ⟨_, rfl, S1, ?_⟩
        simp only [Act.put, List.setIfInBounds_toArray, List.set_cons_zero, List.set_cons_succ]
        refine take_c (i := 12) (.tuple #[.agg #[.slice A3 n3 c3], .int .i64 y2]) 59 rfl (by kernel_rfl) (by kernel_rfl) (by kernel_rfl) (by kernel_rfl) (by kernel_rfl) rfl (by kernel_rfl) (by kernel_rfl) (fun W hW => by kernel_rfl) S1 (fun _ _ _ h => h) ?_
        simp only [Act.put, List.setIfInBounds_toArray, List.set_cons_zero, List.set_cons_succ]
        have x6 := P2.v1.xv.cell 0
        have x6f := P2.v1.xv.frozen 0
        have x6l := P2.v1.xv.lt
        refine any_left (by kernel_rfl) ?_
        refine take_p (i := 13) (.agg #[.slice A3 n3 c3]) 72 rfl (by kernel_rfl) (by kernel_rfl) (by kernel_rfl) (by kernel_rfl) (by kernel_rfl) (fun W => by kernel_rfl) (fun _ _ _ h => h) ?_
        simp only [Act.put, List.setIfInBounds_toArray, List.set_cons_zero, List.set_cons_succ]
        refine take_p (i := 14) (.int .i64 y2) 73 rfl (by kernel_rfl) (by kernel_rfl) (by kernel_rfl) (by kernel_rfl) (by kernel_rfl) (fun W => by kernel_rfl) (fun _ _ _ h => h) ?_
        simp only [Act.put, List.setIfInBounds_toArray, List.set_cons_zero, List.set_cons_succ]
        refine wpAny_tail 15 (by kernel_rfl) (by kernel_rfl) ?_
        simp only [List.append, List.append_eq, List.drop_succ_cons, List.drop_zero, List.drop_nil]
        go_wp2
        go_roundw
        case rel => exact ⟨k + 1, F', A3, n3, c3, hlt, congrArg (Value.int .i64) (next64 hlt HN30.out), by rw [← HMk.out]; exact hT.out.store1 (show Below wa.heap.size wa z2 from b2') q2.out⟩
        case measure => exact less64 hlt HN30.out
      · have d0 : decide ((k : Int) < (m : Int)) = false := decide_eq_false (by omega)
        have hkm : k = la.length := by have := HM.out; omega
        obtain ⟨G9, hG9⟩ : ∃ g, g = makeF G la k := ⟨_, rfl⟩
        have HG9 : Hid (GrOk G9 ∧ G9.length ≤ 1000 ∧ ∀ j, j < G9.length → (G9.getD j nd0).preds.length ≤ 1000) := by
          show _ ∧ _ ∧ _
          rw [hG9]
          exact ⟨makeF_ok ok.out la k, by have := makeF_len G la k; have := HGL.out.1; have := HFA.out.1; omega, makeF_preds HGL.out.2 HFA.out k⟩
        rw [← hG9] at hS
        obtain ⟨F9, hF9⟩ : ∃ g, g = F1 := ⟨_, rfl⟩
        obtain ⟨A9, hA9⟩ : ∃ g, g = A1 := ⟨_, rfl⟩
        obtain ⟨n9, hn9⟩ : ∃ g, g = n1 := ⟨_, rfl⟩
        obtain ⟨c9, hc9⟩ : ∃ g, g = c1 := ⟨_, rfl⟩
        rw [← hF9, ← hA9, ← hn9, ← hc9] at hS
        clear hkm hG9 hF9 hA9 hn9 hc9 hS2 HL1
        have hS2 := hS
        clear hS
        go_wp2
        go_loopw [12] (fun v wr => ∃ (k : Nat) (F1 : Nat → Prop) (A1 : Option Addr) (n1 c1 : Nat), k ≤ o ∧ v = .int .i64 (k : Int) ∧ Hid (CV w wr p F9 q F1 R R10 A9 n9 c9 A1 n1 c1 G9 (makeF G lb k) G9 (makeF G lb k))) (fun v _ => o - (intOf v).toNat)
        case atStart => exact ⟨0, _, _, _, _, Nat.zero_le _, rfl, hS2.out⟩
        case round =>
          obtain ⟨k, F1, A1, n1, c1, hk, rfl, hS⟩ := hrel
          by_cases hlt : k < o
          · have d0 : decide ((k : Int) < (o : Int)) = true := decide_eq_true (by omega)
            have hkl : k < lb.length := by have := HO.out; omega
            have HN30 : Hid (o = lb.length ∧ o ≤ 1000) := ⟨HO.out, by have := HO.out; have := HFB.out.1; omega⟩
            obtain ⟨b, off, rfl, hb, hc⟩ := HL2.out (by omega)
            obtain ⟨pA, pc, hs, hcap, hc0, hc1⟩ := hc k hkl
            obtain ⟨f1, f2, f3⟩ := HFB.out.2 k hkl
            have hMk : makeF G lb (k + 1) = (addG (makeF G lb k) (lb.getD k nd0).id (lb.getD k nd0).preds).1 := rfl
            obtain ⟨x, hx⟩ : ∃ x, x = (lb.getD k nd0).id := ⟨_, rfl⟩
            obtain ⟨ps, hps⟩ : ∃ x, x = (lb.getD k nd0).preds := ⟨_, rfl⟩
            rw [← hx] at hc0 f1 hMk
            rw [← hps] at hs hcap hc1 f2 hMk
            obtain ⟨t, ht⟩ : ∃ t, t = text x := ⟨_, rfl⟩
            obtain ⟨mm, hm⟩ : ∃ m, m = ps.length := ⟨_, rfl⟩
            rw [← ht] at hc0
            rw [← hm] at hc1 hcap f2
            have HSt : Hid (∀ W, Below w.heap.size w W → W.cell? ⟨b, off + k * 2, none⟩ = some (.string t) ∧ W.cell? ⟨b, off + k * 2 + 1, none⟩ = some (.slice pA mm pc)) := fun W hW => ⟨(hW.cell (p := ⟨b, off + k * 2, none⟩) hb).trans hc0, (hW.cell (p := ⟨b, off + k * 2 + 1, none⟩) hb).trans hc1⟩
            obtain ⟨g1, hg⟩ : ∃ g, g = makeF G lb k := ⟨_, rfl⟩
            have hok : GrOk g1 := by rw [hg]; exact makeF_ok ok.out _ k
            have hgl : g1.length ≤ 1000 := by have := makeF_len G lb k; have := HN30.out; have := HGL.out.1; have := HFB.out.1; rw [hg]; omega
            obtain ⟨g2, hg2⟩ : ∃ g, g = makeF G lb (k + 1) := ⟨_, rfl⟩
            rw [← hg] at hMk hS
            rw [← hg2] at hMk
            have HAdd : Hid (∀ W, CV w W p F9 q F1 R R10 A9 n9 c9 A1 n1 c1 G9 g1 G9 g1 → Calls Try.prog 12 #[.pointer (some ⟨q, 0, none⟩), .string t, .slice pA mm pc] W fun e w' => ∃ (y : Int) (F' : Nat → Prop), e = .returned (.int .i64 y) ∧ Hid (CV w w' p F9 q F' R R10 A9 n9 c9 A1 n1 c1 G9 g2 G9 g1)) := fun W hW => by
              rw [ht]
              refine (dagadd_any hW.ca.d2.dag hok hgl x ps pA mm pc (by omega) hm ((hs.below hW.ca.d2.below).more hW.ca.d2.below.size) (fun h0 ad e hf => ?_) (by omega) hcap.1 hcap.2).mono fun e w' hh => ?_
              · obtain ⟨pb, po, e2, h2, -⟩ := hs.at_ (by omega)
                rw [e2] at e
                injection e with e
                have h3 := hW.ca.d2.own _ hf
                rw [← e] at h3
                have h3 : w.heap.size ≤ pb := h3
                omega
              · obtain ⟨q1, F', q2, q3⟩ := hh
                exact ⟨_, F', q1, hW.turned2 (by rw [hMk]; exact q2.out) q3.out⟩
            have HRA : Hid (∀ W F', CV w W p F9 q F' R R10 A9 n9 c9 A1 n1 c1 G9 g2 G9 g1 → Calls Try.prog 11 #[.agg #[.slice A1 n1 c1], .string t, .slice pA mm pc] W fun e w' => ∃ (A3 : Option Addr) (n3 c3 : Nat) (y : Int), e = .returned (.tuple #[.agg #[.slice A3 n3 c3], .int .i64 y]) ∧ Hid (RH w w' (fun k => F9 k ∨ F' k) A3 n3 g2) ∧ Hid (Below W.heap.size W w')) := fun W F' hW => by
              rw [ht, hMk]
              refine (radds_any hW.v2.rh hW.ca.d2.below (fun k hk => hk.elim (hW.ca.d1.flt k) (hW.ca.d2.flt k)) hgl c1 x ps pA mm pc hm hs (by omega) hcap.1 hcap.2).mono fun e w' hh => ?_
              obtain ⟨A3, n3, c3, q1, q2, q3⟩ := hh
              exact ⟨A3, n3, c3, _, q1, q2, q3⟩
            have HMk := Lib.hid hg2
            clear hx hps ht hm hs hcap hc0 hc1 hc hb hkl f1 f2 f3 hMk hg hg2 hok hgl hS2
            go_wp2
            have P0 : CV w wr.drew p F9 q F1 R R10 A9 n9 c9 A1 n1 c1 G9 g1 G9 g1 := hS.out.up ⟨rfl, rfl, rfl, Nat.le_refl _, fun _ _ => rfl⟩
            have S0 : Below w.heap.size w wr.drew := P0.ca.d1.below
            refine region_T (fun W => Below w.heap.size w W) (fun j => decide (12 ≤ j)) (by kernel_rfl) ?_
            refine any_asT rfl (listed' := #[false, false, false, false, false, false, false, false, false, false, false, false]) (by kernel_rfl) ?_
            refine take_c (i := 0) (.pointer (some ⟨q, 0, none⟩)) 80 rfl (by kernel_rfl) (by kernel_rfl) (by kernel_rfl) (by kernel_rfl) (by kernel_rfl) rfl (by kernel_rfl) (by kernel_rfl) (fun W hW => by kernel_rfl) S0 (fun _ _ _ h => h) ?_
            simp only [Act.put, List.setIfInBounds_toArray, List.set_cons_zero, List.set_cons_succ]
            refine take_c (i := 1) (.slice (some ⟨b, off, none⟩) o f) 81 rfl (by kernel_rfl) (by kernel_rfl) (by kernel_rfl) (by kernel_rfl) (by kernel_rfl) rfl (by kernel_rfl) (by kernel_rfl) (fun W hW => by kernel_rfl) S0 (fun _ _ _ h => h) ?_
            simp only [Act.put, List.setIfInBounds_toArray, List.set_cons_zero, List.set_cons_succ]
            refine take_c (i := 2) (.int .i64 (k : Int)) 82 rfl (by kernel_rfl) (by kernel_rfl) (by kernel_rfl) (by kernel_rfl) (by kernel_rfl) rfl (by kernel_rfl) (by kernel_rfl) (fun W hW => by kernel_rfl) S0 (fun _ _ _ h => h) ?_
            simp only [Act.put, List.setIfInBounds_toArray, List.set_cons_zero, List.set_cons_succ]
            refine take_c (i := 3) (.pointer (some ⟨b, off + k * 2, none⟩)) 83 rfl (by kernel_rfl) (by kernel_rfl) (by kernel_rfl) (by kernel_rfl) (by kernel_rfl) rfl (by kernel_rfl) (by kernel_rfl) (fun W hW => nidx_run (.tmp 81) (.tmp 82) b off o f k (by kernel_rfl) (by kernel_rfl) (by kernel_rfl) hlt) S0 (fun _ _ _ h => h) ?_
            simp only [Act.put, List.setIfInBounds_toArray, List.set_cons_zero, List.set_cons_succ]
            refine take_c (i := 4) (.pointer (some ⟨b, off + k * 2, none⟩)) 84 rfl (by kernel_rfl) (by kernel_rfl) (by kernel_rfl) (by kernel_rfl) (by kernel_rfl) rfl (by kernel_rfl) (by kernel_rfl) (fun W hW => nfld0_run (.tmp 83) b (off + k * 2) (by kernel_rfl) (by kernel_rfl)) S0 (fun _ _ _ h => h) ?_
            simp only [Act.put, List.setIfInBounds_toArray, List.set_cons_zero, List.set_cons_succ]
            refine take_c (i := 5) (.string t) 85 rfl (by kernel_rfl) (by kernel_rfl) (by kernel_rfl) (by kernel_rfl) (by kernel_rfl) rfl (by kernel_rfl) (by kernel_rfl) (fun W hW => cell_run 9 (.tmp 84) ⟨b, off + k * 2, none⟩ (.string t) _ (by kernel_rfl) (by kernel_rfl) (HSt.out W hW).1 Try.underlying9 rfl (by kernel_rfl)) S0 (fun _ _ _ h => h) ?_
            simp only [Act.put, List.setIfInBounds_toArray, List.set_cons_zero, List.set_cons_succ]
            refine take_c (i := 6) (.slice (some ⟨b, off, none⟩) o f) 86 rfl (by kernel_rfl) (by kernel_rfl) (by kernel_rfl) (by kernel_rfl) (by kernel_rfl) rfl (by kernel_rfl) (by kernel_rfl) (fun W hW => by kernel_rfl) S0 (fun _ _ _ h => h) ?_
            simp only [Act.put, List.setIfInBounds_toArray, List.set_cons_zero, List.set_cons_succ]
            refine take_c (i := 7) (.int .i64 (k : Int)) 87 rfl (by kernel_rfl) (by kernel_rfl) (by kernel_rfl) (by kernel_rfl) (by kernel_rfl) rfl (by kernel_rfl) (by kernel_rfl) (fun W hW => by kernel_rfl) S0 (fun _ _ _ h => h) ?_
            simp only [Act.put, List.setIfInBounds_toArray, List.set_cons_zero, List.set_cons_succ]
            refine take_c (i := 8) (.pointer (some ⟨b, off + k * 2, none⟩)) 88 rfl (by kernel_rfl) (by kernel_rfl) (by kernel_rfl) (by kernel_rfl) (by kernel_rfl) rfl (by kernel_rfl) (by kernel_rfl) (fun W hW => nidx_run (.tmp 86) (.tmp 87) b off o f k (by kernel_rfl) (by kernel_rfl) (by kernel_rfl) hlt) S0 (fun _ _ _ h => h) ?_
            simp only [Act.put, List.setIfInBounds_toArray, List.set_cons_zero, List.set_cons_succ]
            refine take_c (i := 9) (.pointer (some ⟨b, off + k * 2 + 1, none⟩)) 89 rfl (by kernel_rfl) (by kernel_rfl) (by kernel_rfl) (by kernel_rfl) (by kernel_rfl) rfl (by kernel_rfl) (by kernel_rfl) (fun W hW => nfld1_run (.tmp 88) b (off + k * 2) (by kernel_rfl) (by kernel_rfl)) S0 (fun _ _ _ h => h) ?_
            simp only [Act.put, List.setIfInBounds_toArray, List.set_cons_zero, List.set_cons_succ]
            refine take_c (i := 10) (.slice pA mm pc) 90 rfl (by kernel_rfl) (by kernel_rfl) (by kernel_rfl) (by kernel_rfl) (by kernel_rfl) rfl (by kernel_rfl) (by kernel_rfl) (fun W hW => cell_run 33 (.tmp 89) ⟨b, off + k * 2 + 1, none⟩ (.slice pA mm pc) _ (by kernel_rfl) (by kernel_rfl) (HSt.out W hW).2 Try.underlying33 rfl (by kernel_rfl)) S0 (fun _ _ _ h => h) ?_
            simp only [Act.put, List.setIfInBounds_toArray, List.set_cons_zero, List.set_cons_succ]
            refine any_comes (i := 11) (by kernel_rfl) (op_enter 12 #[.pointer (some ⟨q, 0, none⟩), .string t, .slice pA mm pc] (some 91) rfl (by kernel_rfl) (by kernel_rfl) (by kernel_rfl) ((HAdd.out _ P0).mono ?_))
            rintro e z1 ⟨y, F', rfl, hT⟩
            have S1 := hT.out.ca.d1.below
            refine ⟨_, rfl, S1, ?_⟩
            simp only [Act.put, List.setIfInBounds_toArray, List.set_cons_zero, List.set_cons_succ]
            refine any_left (by kernel_rfl) ?_
            refine wpAny_tail 12 (by kernel_rfl) (by kernel_rfl) ?_
            simp only [List.drop_succ_cons, List.drop_zero, List.drop_nil]
            go_wp2
            obtain ⟨wa, hwa⟩ : ∃ x, x = z1 := ⟨_, rfl⟩
            rw [← hwa] at hT ⊢
            clear hwa S0 S1 P0
            have x5 := hT.out.v2.xv.cell 0
            have x5f := hT.out.v2.xv.frozen 0
            have x5l := hT.out.v2.xv.lt
            go_wp2
            have P1 : CV w wa.drew p F9 q F' R R10 A9 n9 c9 A1 n1 c1 G9 g2 G9 g1 := hT.out.up ⟨rfl, rfl, rfl, Nat.le_refl _, fun _ _ => rfl⟩
            have S0 : (Below w.heap.size w wa.drew ∧ wa.drew.cell? ⟨R10, 0, none⟩ = some (.slice A1 n1 c1)) := ⟨P1.ca.d1.below, P1.v2.xv.cell 0⟩
            refine region_T (fun W => (Below w.heap.size w W ∧ W.cell? ⟨R10, 0, none⟩ = some (.slice A1 n1 c1))) (fun j => decide (13 ≤ j)) (by kernel_rfl) ?_
            refine any_asT rfl (listed' := #[false, false, false, false, false, false, false, false, false, false, false, false, false, false, false, false]) (by kernel_rfl) ?_
            refine take_c (i := 0) (.agg #[.slice A1 n1 c1]) 93 rfl (by kernel_rfl) (by kernel_rfl) (by kernel_rfl) (by kernel_rfl) (by kernel_rfl) rfl (by kernel_rfl) (by kernel_rfl) (fun W hW => dagload_run (.tmp 10) R10 A1 n1 c1 (by kernel_rfl) (by kernel_rfl) hW.2) S0 (fun _ _ _ h => h) ?_
            simp only [Act.put, List.setIfInBounds_toArray, List.set_cons_zero, List.set_cons_succ]
            refine take_c (i := 1) (.slice (some ⟨b, off, none⟩) o f) 94 rfl (by kernel_rfl) (by kernel_rfl) (by kernel_rfl) (by kernel_rfl) (by kernel_rfl) rfl (by kernel_rfl) (by kernel_rfl) (fun W hW => by kernel_rfl) S0 (fun _ _ _ h => h) ?_
            simp only [Act.put, List.setIfInBounds_toArray, List.set_cons_zero, List.set_cons_succ]
            refine take_c (i := 2) (.int .i64 (k : Int)) 95 rfl (by kernel_rfl) (by kernel_rfl) (by kernel_rfl) (by kernel_rfl) (by kernel_rfl) rfl (by kernel_rfl) (by kernel_rfl) (fun W hW => by kernel_rfl) S0 (fun _ _ _ h => h) ?_
            simp only [Act.put, List.setIfInBounds_toArray, List.set_cons_zero, List.set_cons_succ]
            refine take_c (i := 3) (.pointer (some ⟨b, off + k * 2, none⟩)) 96 rfl (by kernel_rfl) (by kernel_rfl) (by kernel_rfl) (by kernel_rfl) (by kernel_rfl) rfl (by kernel_rfl) (by kernel_rfl) (fun W hW => nidx_run (.tmp 94) (.tmp 95) b off o f k (by kernel_rfl) (by kernel_rfl) (by kernel_rfl) hlt) S0 (fun _ _ _ h => h) ?_
            simp only [Act.put, List.setIfInBounds_toArray, List.set_cons_zero, List.set_cons_succ]
            refine take_c (i := 4) (.pointer (some ⟨b, off + k * 2, none⟩)) 97 rfl (by kernel_rfl) (by kernel_rfl) (by kernel_rfl) (by kernel_rfl) (by kernel_rfl) rfl (by kernel_rfl) (by kernel_rfl) (fun W hW => nfld0_run (.tmp 96) b (off + k * 2) (by kernel_rfl) (by kernel_rfl)) S0 (fun _ _ _ h => h) ?_
            simp only [Act.put, List.setIfInBounds_toArray, List.set_cons_zero, List.set_cons_succ]
            refine take_c (i := 5) (.string t) 98 rfl (by kernel_rfl) (by kernel_rfl) (by kernel_rfl) (by kernel_rfl) (by kernel_rfl) rfl (by kernel_rfl) (by kernel_rfl) (fun W hW => cell_run 9 (.tmp 97) ⟨b, off + k * 2, none⟩ (.string t) _ (by kernel_rfl) (by kernel_rfl) (HSt.out W hW.1).1 Try.underlying9 rfl (by kernel_rfl)) S0 (fun _ _ _ h => h) ?_
            simp only [Act.put, List.setIfInBounds_toArray, List.set_cons_zero, List.set_cons_succ]
            refine take_c (i := 6) (.slice (some ⟨b, off, none⟩) o f) 99 rfl (by kernel_rfl) (by kernel_rfl) (by kernel_rfl) (by kernel_rfl) (by kernel_rfl) rfl (by kernel_rfl) (by kernel_rfl) (fun W hW => by kernel_rfl) S0 (fun _ _ _ h => h) ?_
            simp only [Act.put, List.setIfInBounds_toArray, List.set_cons_zero, List.set_cons_succ]
            refine take_c (i := 7) (.int .i64 (k : Int)) 100 rfl (by kernel_rfl) (by kernel_rfl) (by kernel_rfl) (by kernel_rfl) (by kernel_rfl) rfl (by kernel_rfl) (by kernel_rfl) (fun W hW => by kernel_rfl) S0 (fun _ _ _ h => h) ?_
            simp only [Act.put, List.setIfInBounds_toArray, List.set_cons_zero, List.set_cons_succ]
            refine take_c (i := 8) (.pointer (some ⟨b, off + k * 2, none⟩)) 101 rfl (by kernel_rfl) (by kernel_rfl) (by kernel_rfl) (by kernel_rfl) (by kernel_rfl) rfl (by kernel_rfl) (by kernel_rfl) (fun W hW => nidx_run (.tmp 99) (.tmp 100) b off o f k (by kernel_rfl) (by kernel_rfl) (by kernel_rfl) hlt) S0 (fun _ _ _ h => h) ?_
            simp only [Act.put, List.setIfInBounds_toArray, List.set_cons_zero, List.set_cons_succ]
            refine take_c (i := 9) (.pointer (some ⟨b, off + k * 2 + 1, none⟩)) 102 rfl (by kernel_rfl) (by kernel_rfl) (by kernel_rfl) (by kernel_rfl) (by kernel_rfl) rfl (by kernel_rfl) (by kernel_rfl) (fun W hW => nfld1_run (.tmp 101) b (off + k * 2) (by kernel_rfl) (by kernel_rfl)) S0 (fun _ _ _ h => h) ?_
            simp only [Act.put, List.setIfInBounds_toArray, List.set_cons_zero, List.set_cons_succ]
            refine take_c (i := 10) (.slice pA mm pc) 103 rfl (by kernel_rfl) (by kernel_rfl) (by kernel_rfl) (by kernel_rfl) (by kernel_rfl) rfl (by kernel_rfl) (by kernel_rfl) (fun W hW => cell_run 33 (.tmp 102) ⟨b, off + k * 2 + 1, none⟩ (.slice pA mm pc) _ (by kernel_rfl) (by kernel_rfl) (HSt.out W hW.1).2 Try.underlying33 rfl (by kernel_rfl)) S0 (fun _ _ _ h => h) ?_
            simp only [Act.put, List.setIfInBounds_toArray, List.set_cons_zero, List.set_cons_succ]
            refine any_comes (i := 11) (by kernel_rfl) (op_enter 11 #[.agg #[.slice A1 n1 c1], .string t, .slice pA mm pc] (some 104) rfl (by kernel_rfl) (by kernel_rfl) (by kernel_rfl) ((HRA.out _ _ P1).mono ?_))
            rintro e z2 ⟨A3, n3, c3, y2, rfl, q2, b2⟩
            have b2' : Below wa.heap.size wa z2 := ⟨b2.out.os, b2.out.tape, b2.out.output, b2.out.size, b2.out.block⟩
            have P2 := hT.out.up b2'
            have S1 : (Below w.heap.size w z2 ∧ z2.cell? ⟨R10, 0, none⟩ = some (.slice A1 n1 c1)) := ⟨P2.ca.d1.below, P2.v2.xv.cell 0⟩
            refine ⟨_, rfl, S1, ?_⟩
            simp only [Act.put, List.setIfInBounds_toArray, List.set_cons_zero, List.set_cons_succ]
            refine take_c (i := 12) (.tuple #[.agg #[.slice A3 n3 c3], .int .i64 y2]) 92 rfl (by kernel_rfl) (by kernel_rfl) (by kernel_rfl) (by kernel_rfl) (by kernel_rfl) rfl (by kernel_rfl) (by kernel_rfl) (fun W hW => by kernel_rfl) S1 (fun _ _ _ h => h) ?_
            simp only [Act.put, List.setIfInBounds_toArray, List.set_cons_zero, List.set_cons_succ]
            have x6 := P2.v2.xv.cell 0
            have x6f := P2.v2.xv.frozen 0
            have x6l := P2.v2.xv.lt
            refine any_left (by kernel_rfl) ?_
            refine take_p (i := 13) (.agg #[.slice A3 n3 c3]) 105 rfl (by kernel_rfl) (by kernel_rfl) (by kernel_rfl) (by kernel_rfl) (by kernel_rfl) (fun W => by kernel_rfl) (fun _ _ _ h => h) ?_
            simp only [Act.put, List.setIfInBounds_toArray, List.set_cons_zero, List.set_cons_succ]
            refine take_p (i := 14) (.int .i64 y2) 106 rfl (by kernel_rfl) (by kernel_rfl) (by kernel_rfl) (by kernel_rfl) (by kernel_rfl) (fun W => by kernel_rfl) (fun _ _ _ h => h) ?_
            simp only [Act.put, List.setIfInBounds_toArray, List.set_cons_zero, List.set_cons_succ]
            refine wpAny_tail 15 (by kernel_rfl) (by kernel_rfl) ?_
            simp only [List.append, List.append_eq, List.drop_succ_cons, List.drop_zero, List.drop_nil]
            go_wp2
            go_roundw
            case rel => exact ⟨k + 1, F', A3, n3, c3, hlt, congrArg (Value.int .i64) (next64 hlt HN30.out), by rw [← HMk.out]; exact hT.out.store2 (show Below wa.heap.size wa z2 from b2') q2.out⟩
            case measure => exact less64 hlt HN30.out
          · have d0 : decide ((k : Int) < (o : Int)) = false := decide_eq_false (by omega)
            obtain ⟨H9, hH9⟩ : ∃ g, g = makeF G lb k := ⟨_, rfl⟩
            have HH9 : Hid (GrOk H9 ∧ H9.length ≤ 1000 ∧ ∀ j, j < H9.length → (H9.getD j nd0).preds.length ≤ 1000) := by
              show _ ∧ _ ∧ _
              rw [hH9]
              exact ⟨makeF_ok ok.out lb k, by have := makeF_len G lb k; have := HGL.out.1; have := HO.out; have := HFB.out.1; omega, makeF_preds HGL.out.2 HFB.out k⟩
            rw [← hH9] at hS
            clear hH9 hS2 HL2
            have HAl1 : Hid (∀ W, Hid (CV w W p F9 q F1 R R10 A9 n9 c9 A1 n1 c1 G9 H9 G9 H9) → Calls Try.prog 13 #[.pointer (some ⟨p, 0, none⟩), .agg #[.slice A9 n9 c9]] W fun e w' => e = .returned (.bool true) ∧ Hid (CV w w' p F9 q F1 R R10 A9 n9 c9 A1 n1 c1 G9 H9 G9 H9)) := fun W h => (alike_any h.out.ca.d1 (h.out.v1.rh.sub fun _ h => .inl h) HG9.out.1 HG9.out.2.1 HG9.out.2.2 c9).mono fun e w' hh => ⟨hh.1, h.out.up hh.2⟩
            have HAl2 : Hid (∀ W, Hid (CV w W p F9 q F1 R R10 A9 n9 c9 A1 n1 c1 G9 H9 G9 H9) → Calls Try.prog 13 #[.pointer (some ⟨q, 0, none⟩), .agg #[.slice A1 n1 c1]] W fun e w' => e = .returned (.bool true) ∧ Hid (Below w.heap.size w w')) := fun W h => (alike_any h.out.ca.d2 (h.out.v2.rh.sub fun _ h => .inr h) HH9.out.1 HH9.out.2.1 HH9.out.2.2 c1).mono fun e w' hh => ⟨hh.1, (h.out.up hh.2).ca.d1.below⟩
            have HId : Hid (∀ W, Hid (CV w W p F9 q F1 R R10 A9 n9 c9 A1 n1 c1 G9 H9 G9 H9) → Calls Try.prog 33 #[.int .u8 1] W fun e w' => e = .returned (.string (text (idB 1))) ∧ Hid (CV w w' p F9 q F1 R R10 A9 n9 c9 A1 n1 c1 G9 H9 G9 H9)) := fun W h => (lawid_any 1 1 rfl W).mono fun e w' hh => ⟨hh.1, h.out.up hh.2⟩
            obtain ⟨ti, hti⟩ : ∃ t, t = text (idB 1) := ⟨_, rfl⟩
            rw [← hti] at HId
            clear hti
            have HnA : Hid (∀ W, Hid (Below w.heap.size w W) → Calls Try.prog 12 #[.pointer none, .string ti, .slice none 0 0] W fun e w' => e = .returned (.int .i64 8) ∧ Hid (Below w.heap.size w w')) := fun W h => (dagadd_none ti none 0 0 W).mono fun e w' hh => ⟨hh.1, h.out.trans (hh.2.mono h.out.size)⟩
            have HnH : Hid (∀ W, Hid (Below w.heap.size w W) → Calls Try.prog 18 #[.pointer none, .string ti] W fun e w' => e = .returned (.bool false) ∧ Hid (Below w.heap.size w w')) := fun W h => (daghas_none ti W).mono fun e w' hh => ⟨hh.1, h.out.trans (hh.2.mono h.out.size)⟩
            have HnL : Hid (∀ W, Hid (Below w.heap.size w W) → Calls Try.prog 30 #[.pointer none] W fun e w' => e = .returned (.int .i64 0) ∧ Hid (Below w.heap.size w w')) := fun W h => (daglen_none W).mono fun e w' hh => ⟨hh.1, h.out.trans (hh.2.mono h.out.size)⟩
            have HnP : Hid (∀ W, Hid (Below w.heap.size w W) → Calls Try.prog 22 #[.pointer none, .string ti] W fun e w' => ∃ A c, e = .returned (.slice A 0 c) ∧ Hid (Below w.heap.size w w')) := fun W h => (dagpreds_none ti W).mono fun e w' hh => by
              obtain ⟨A, c, q1, _, _, _, q5⟩ := hh
              exact ⟨A, c, q1, h.out.trans (q5.mono h.out.size)⟩
            have HnK : Hid (∀ W, Hid (Below w.heap.size w W) → Calls Try.prog 24 #[.pointer none, .string ti] W fun e w' => ∃ A c, e = .returned (.slice A 0 c) ∧ Hid (Below w.heap.size w w')) := fun W h => (dagkids_none ti W).mono fun e w' hh => by
              obtain ⟨A, c, q1, _, _, _, q5⟩ := hh
              exact ⟨A, c, q1, h.out.trans (q5.mono h.out.size)⟩
            have HnE : Hid (∀ W, Hid (Below w.heap.size w W) → Calls Try.prog 34 #[.pointer none] W fun e w' => ∃ A c, e = .returned (.slice A 0 c) ∧ Hid (Below w.heap.size w w')) := fun W h => (dagheads_none W).mono fun e w' hh => by
              obtain ⟨A, c, q1, _, _, _, q5⟩ := hh
              exact ⟨A, c, q1, h.out.trans (q5.mono h.out.size)⟩
            have HnD : Hid (∀ W, Hid (Below w.heap.size w W) → Calls Try.prog 20 #[.pointer none, .string ti] W fun e w' => e = .returned (.int .i64 0) ∧ Hid (Below w.heap.size w w')) := fun W h => (dagdepth_none ti W).mono fun e w' hh => ⟨hh.1, h.out.trans (hh.2.mono h.out.size)⟩
            have HnO : Hid (∀ W, Hid (Below w.heap.size w W) → Calls Try.prog 28 #[.pointer none] W fun e w' => ∃ A c, e = .returned (.slice A 0 c) ∧ Hid (Below w.heap.size w w')) := fun W h => (dagorder_none W).mono fun e w' hh => by
              obtain ⟨A, c, q1, _, _, _, q5⟩ := hh
              exact ⟨A, c, q1, h.out.trans (q5.mono h.out.size)⟩
            have HnB : Hid (∀ W, Hid (Below w.heap.size w W) → Calls Try.prog 26 #[.pointer none, .string ti, .string ti] W fun e w' => e = .returned (.bool false) ∧ Hid (Below w.heap.size w w')) := fun W h => (dagahead_none ti ti W).mono fun e w' hh => ⟨hh.1, h.out.trans (hh.2.mono h.out.size)⟩
            have HnC : Hid (∀ W, Hid (Below w.heap.size w W) → Calls Try.prog 32 #[.pointer none] W fun e w' => e = .returned (.pointer none) ∧ Hid (Below w.heap.size w w')) := fun W h => (dagclone_none W).mono fun e w' hh => ⟨hh.1, h.out.trans (hh.2.mono h.out.size)⟩
            have HnQ : Hid (∀ W, Hid (Below w.heap.size w W) → Calls Try.prog 16 #[.pointer none, .slice (some ⟨W.heap.size, 0, none⟩) 1 1] (W.alloc (.cells #[.string ti] 9)) fun e w' => ∃ A c, e = .returned (.slice A 0 c) ∧ Hid (Below w.heap.size w w')) := fun W h => (dagpast_none (some ⟨W.heap.size, 0, none⟩) 1 1 _).mono fun e w' hh => by
              obtain ⟨A, c, q1, _, _, _, q5⟩ := hh
              have q6 : Below w.heap.size w (W.alloc (.cells #[.string ti] 9)) := h.out.alloc h.out.size _
              exact ⟨A, c, q1, q6.trans (q5.mono q6.size)⟩
            have y4 := hS.out.v1.xv.cell 0
            have y10 := hS.out.v2.xv.cell 0
            go_wp2_with (first
              | (go_at_call 33; (with_reducible refine (HId.out _ (by assumption)).mono ?_); rintro e z ⟨rfl, hc⟩; have y4 := hc.out.v1.xv.cell 0; have y10 := hc.out.v2.xv.cell 0)
              | (go_at_call 13; (with_reducible refine (HAl1.out _ (by assumption)).mono ?_); rintro e z ⟨rfl, hc⟩; have y4 := hc.out.v1.xv.cell 0; have y10 := hc.out.v2.xv.cell 0)
              | (go_at_call 13; (with_reducible refine (HAl2.out _ (by assumption)).mono ?_); rintro e z ⟨rfl, hz⟩)
              | (go_at_call 10; (with_reducible refine (HAw.out _ (by assumption)).mono ?_); rintro e z ⟨rfl, hz⟩)
              | (go_at_call 12; (with_reducible refine (HnA.out _ (by assumption)).mono ?_); rintro e z ⟨rfl, hz⟩)
              | (go_at_call 18; (with_reducible refine (HnH.out _ (by assumption)).mono ?_); rintro e z ⟨rfl, hz⟩)
              | (go_at_call 30; (with_reducible refine (HnL.out _ (by assumption)).mono ?_); rintro e z ⟨rfl, hz⟩)
              | (go_at_call 22; (with_reducible refine (HnP.out _ (by assumption)).mono ?_); rintro e z ⟨A7, c7, rfl, hz⟩)
              | (go_at_call 24; (with_reducible refine (HnK.out _ (by assumption)).mono ?_); rintro e z ⟨A7, c7, rfl, hz⟩)
              | (go_at_call 34; (with_reducible refine (HnE.out _ (by assumption)).mono ?_); rintro e z ⟨A7, c7, rfl, hz⟩)
              | (go_at_call 20; (with_reducible refine (HnD.out _ (by assumption)).mono ?_); rintro e z ⟨rfl, hz⟩)
              | (go_at_call 28; (with_reducible refine (HnO.out _ (by assumption)).mono ?_); rintro e z ⟨A7, c7, rfl, hz⟩)
              | (go_at_call 26; (with_reducible refine (HnB.out _ (by assumption)).mono ?_); rintro e z ⟨rfl, hz⟩)
              | (go_at_call 32; (with_reducible refine (HnC.out _ (by assumption)).mono ?_); rintro e z ⟨rfl, hz⟩)
              | (go_at_call 16; (with_reducible refine (HnQ.out _ (by assumption)).mono ?_); rintro e z ⟨A7, c7, rfl, hz⟩))
            go_ret
            exact ⟨rfl, hz.out⟩
end Go.Proofs.Ytbeihiokjhfepaa
