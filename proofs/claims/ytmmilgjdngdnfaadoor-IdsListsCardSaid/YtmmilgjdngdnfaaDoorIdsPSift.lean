/- The walk of the program's sifted at texts (layer 4): two rising lists gone through at once. -/
import Derived.Test.YtmmilgjdngdnfaaDoorIdsPCmp
import Derived.Test.YtmmilgjdngdnfaaDoorShaPMix
set_option linter.unusedVariables false
namespace Go.Proofs.YtmmilgjdngdnfaaDoor
open Go.RowKit

set_option maxRecDepth 100000 in
set_option maxHeartbeats 2000000 in
theorem sifted_any (f : Nat) (keep : Bool → Bool → Bool) (ef : ∀ args w, (callFunc f args).run Tryd.prog w = .ok (.enter f args) w)
    (hK : ∀ p q V, Calls Tryd.prog f #[.bool p, .bool q] V fun e w' => e = .returned (.bool (keep p q)) ∧ V = w')
    (Ls Ms : List Bs) (A C : Option Addr) (n c m d : Nat) (w : World) (HN : Hid (n = Ls.length)) (HM : Hid (m = Ms.length)) (hr : SS w w.heap.size A Ls) (hr2 : SS w w.heap.size C Ms) (hn : n ≤ 1000) (hm : m ≤ 1000) (hc : n ≤ c) (hcm : c ≤ 9223372036854775807) (hd : m ≤ d) (hdm : d ≤ 9223372036854775807) :
    Calls Tryd.prog 39 #[.slice A n c, .slice C m d, .func (.func f) #[] #[]] w (GivesStrs (mergeF keep Ls Ms) w) := by
  obtain ⟨i0, hi0, hz0, hz1, hz2⟩ := info_parts Tryd.infoStr
  have HKp : Hid (∀ p q V, Calls Tryd.prog f #[.bool p, .bool q] V fun e w' => e = .returned (.bool (keep p q)) ∧ V = w') := hK
  have HR : Hid (SS w w.heap.size A Ls) := hr
  have HR2 : Hid (SS w w.heap.size C Ms) := hr2
  clear hr hr2 hK
  go_enter Tryd.func39, Tryd.ntmps39
  go_wp2
  go_loopw [0, 1, 7, 8, 9, 10, 11] (fun v0 v1 v7 v8 v9 v10 v11 wr => ∃ (X Y K : List Bs) (A1 A2 : Option Addr) (n1 c1 n2 c2 y : Nat), v0 = .slice A1 n1 c1 ∧ v1 = .slice A2 n2 c2 ∧ Hid (n1 = X.length) ∧ Hid (n2 = Y.length) ∧ n1 ≤ c1 ∧ c1 ≤ 9223372036854775807 ∧ n2 ≤ c2 ∧ c2 ≤ 9223372036854775807 ∧ Hid (SS w w.heap.size A1 X) ∧ Hid (SS w w.heap.size A2 Y) ∧ Hid (K ++ mergeF keep X Y = mergeF keep Ls Ms) ∧ Hid (y = K.length) ∧ n1 + n2 + y ≤ 2000 ∧ wr.ownsRow w.heap.size 9 1 v7 y (scells K) ∧ Below w.heap.size w wr)
    (fun v0 v1 _ _ _ _ _ _ => (match v0 with | .slice _ n _ => n | _ => 0) + (match v1 with | .slice _ n _ => n | _ => 0))
  case atStart => exact ⟨Ls, Ms, [], A, C, n, c, m, d, 0, rfl, rfl, HN, HM, hc, hcm, hd, hdm, HR.out, HR2.out, rfl, rfl, by omega, World.ownsRow_nil _ _ _ _, Below.refl _ _⟩
  case round =>
    clear HR HR2 HN HM hn hm hc hcm hd hdm
    obtain ⟨X, Y, K, A1, A2, n1, c1, n2, c2, y, rfl, rfl, HN, HM, hc1, hcm1, hc2, hcm2, HX, HY, HE, Hy, hle, hown, hb⟩ := hrel
    rcases X with _ | ⟨x, X⟩
    · have hn1 : n1 = 0 := HN.out
      subst hn1
      rcases Y with _ | ⟨z, Y⟩
      · have hn2 : n2 = 0 := HM.out
        subst hn2
        have HF : Hid (K = mergeF keep Ls Ms) := by have := HE.out; rw [mergeF, List.append_nil] at this; exact this
        clear HE
        go_wp2
        go_ret
        rw [Hy.out] at hown
        rw [← HF.out]
        exact GivesStrs.own hown hb
      · skip
        have hp2 : 0 < n2 := by have := HM.out; simp at this; omega
        have u2 : (0 : Int) < (n2 : Int) := by omega
        have t2 : (1 : Int) ≤ (n2 : Int) := by omega
        have d2 : decide (0 < (n2 : Int)) = true := decide_eq_true u2
        obtain ⟨b2, off2, rfl, hbb2, hcl2⟩ := HY.out.first
        obtain ⟨s2, hs2⟩ : ∃ s, s = text z := ⟨_, rfl⟩
        rw [← hs2] at hcl2
        have Hc2 := Lib.hid hcl2
        rw [← hb.cell (p := ⟨b2, off2, none⟩) hbb2] at hcl2
        have Hbb2 := Lib.hid hbb2
        have hcut2 : ∀ W, (Instr.sliceAt 22 (.slice (some ⟨b2, off2, none⟩) n2 c2) (some (.int .i64 1)) none none).run Tryd.prog W = .ok (.slice (if c2 = 1 then (some ⟨b2, off2, none⟩ : Option Addr) else (some ⟨b2, off2, none⟩ : Option Addr).map (fun a => a.add (1 * 1))) (n2 - 1) (c2 - 1)) W := fun W => sslice_back (some ⟨b2, off2, none⟩) n2 c2 1 W (by omega)
        obtain ⟨B2, hB2⟩ : ∃ B, B = (if c2 = 1 then (some ⟨b2, off2, none⟩ : Option Addr) else (some ⟨b2, off2, none⟩ : Option Addr).map (fun a => a.add (1 * 1))) := ⟨_, rfl⟩
        rw [← hB2] at hcut2
        have HR2 : Hid (SS w w.heap.size B2 Y) := by show SS _ _ _ _; rw [hB2]; exact HY.out.rest HM.out hc2
        have HL2 : Hid (n2 - 1 = Y.length) := by have := HM.out; show _ = _; simp at this; omega
        have Hs2 := Lib.hid hs2
        clear hB2 hbb2 hs2
        have HE3 : Hid ((K ++ if keep false true then [z] else []) ++ mergeF keep [] Y = mergeF keep Ls Ms) := by show _ = _; rw [List.append_assoc, ← merge_right]; exact HE.out
        have HKr : Hid (∀ V, Calls Tryd.prog f #[.bool false, .bool true] V fun e w' => e = .returned (.bool (keep false true)) ∧ V = w') := HKp.out false true
        have Howr := Lib.hid hown
        have Hbwr := Lib.hid hb
        clear HE HKp hown hb
        cases hkr : keep false true with
        | true =>
          rw [hkr] at HE3 HKr
          clear hkr
          go_wp2
          go_quiet (fail)
          have Hqw1 : Hid (Below w.heap.size w (wr.drewN nq)) := ⟨Hbwr.out.os, Hbwr.out.tape, Hbwr.out.output, Hbwr.out.size, Hbwr.out.block⟩
          have How1 : Hid ((wr.drewN nq).ownsRow w.heap.size 9 1 u7 y (scells K)) := Howr.out
          generalize wr.drewN nq = w1 at Hqw1 How1 ⊢
          have Hbw1 := Hqw1
          have hcl2 : w1.cell? ⟨b2, off2, none⟩ = some (.string s2) := (Hbw1.out.cell (p := ⟨b2, off2, none⟩) Hbb2.out).trans Hc2.out
          have hown := How1.out
          have hb := Hbw1.out
          go_wp2_with (first
            | (go_at_fn f; (with_reducible refine (HKr.out _).mono ?_); rintro e w' ⟨rfl, rfl⟩)
            | (at_builtin; refine wpList_append_own _ rfl (.tmp 57) (.tmp 59) _ rfl w.heap.size 9 i0 _ 1 16 Tryd.underlying22 hi0 hz0 hz1 hz2 rfl (by omega) _ y (scells K) rfl (hown.alloc _) ⟨w1.heap.size, 0, none⟩ 1 1 [Value.string s2] rfl rfl (cell_one_new _ _ _) (by intro u hu; rw [List.mem_singleton] at hu; subst hu; rfl) (by simp only [maxLen]; omega) (by omega) (by have := hb.size; simp; omega) ?_; intro v9 w9 ho9 hg9 hat9; have b9 : Below w.heap.size w w9 := (hb.alloc hb.size _).grown hg9 (by have := hb.size; simp; omega) (fun q hq => (hown.lt q hq).1)))
          have e9 : scells K ++ [Value.string s2] = scells (K ++ [z]) := by rw [scells_append, Hs2.out]; rfl
          rw [e9] at ho9
          refine ⟨⟨[], Y, K ++ [z], A1, B2, 0, c1, n2 - 1, c2 - 1, y + 1, rfl, rfl, HN, HL2, by omega, by omega, by omega, by omega, HX, HR2, HE3, by show _ = _; rw [Hy.out]; simp, by omega, ho9, b9⟩, ?_⟩
          simp; try omega
        | false =>
          rw [hkr] at HE3 HKr
          clear hkr
          go_wp2
          go_quiet (fail)
          have Hqw1 : Hid (Below w.heap.size w (wr.drewN nq)) := ⟨Hbwr.out.os, Hbwr.out.tape, Hbwr.out.output, Hbwr.out.size, Hbwr.out.block⟩
          have How1 : Hid ((wr.drewN nq).ownsRow w.heap.size 9 1 u7 y (scells K)) := Howr.out
          generalize wr.drewN nq = w1 at Hqw1 How1 ⊢
          have Hbw1 := Hqw1
          have hcl2 : w1.cell? ⟨b2, off2, none⟩ = some (.string s2) := (Hbw1.out.cell (p := ⟨b2, off2, none⟩) Hbb2.out).trans Hc2.out
          have hown := How1.out
          have hb := Hbw1.out
          go_wp2_with (first
            | (go_at_fn f; (with_reducible refine (HKr.out _).mono ?_); rintro e w' ⟨rfl, rfl⟩))
          have HE4 : Hid (K ++ mergeF keep [] Y = mergeF keep Ls Ms) := by have := HE3.out; show _ = _; simpa using this
          refine ⟨⟨[], Y, K, A1, B2, 0, c1, n2 - 1, c2 - 1, y, rfl, rfl, HN, HL2, by omega, by omega, by omega, by omega, HX, HR2, HE4, Hy, by omega, hown, hb⟩, ?_⟩
          simp; try omega
    · rcases Y with _ | ⟨z, Y⟩
      · have hn2 : n2 = 0 := HM.out
        subst hn2
        have hp1 : 0 < n1 := by have := HN.out; simp at this; omega
        have u1 : (0 : Int) < (n1 : Int) := by omega
        have t1 : (1 : Int) ≤ (n1 : Int) := by omega
        have d1 : decide (0 < (n1 : Int)) = true := decide_eq_true u1
        obtain ⟨b1, off1, rfl, hbb1, hcl1⟩ := HX.out.first
        obtain ⟨s1, hs1⟩ : ∃ s, s = text x := ⟨_, rfl⟩
        rw [← hs1] at hcl1
        have Hc1 := Lib.hid hcl1
        rw [← hb.cell (p := ⟨b1, off1, none⟩) hbb1] at hcl1
        have Hbb1 := Lib.hid hbb1
        have hcut1 : ∀ W, (Instr.sliceAt 22 (.slice (some ⟨b1, off1, none⟩) n1 c1) (some (.int .i64 1)) none none).run Tryd.prog W = .ok (.slice (if c1 = 1 then (some ⟨b1, off1, none⟩ : Option Addr) else (some ⟨b1, off1, none⟩ : Option Addr).map (fun a => a.add (1 * 1))) (n1 - 1) (c1 - 1)) W := fun W => sslice_back (some ⟨b1, off1, none⟩) n1 c1 1 W (by omega)
        obtain ⟨B1, hB1⟩ : ∃ B, B = (if c1 = 1 then (some ⟨b1, off1, none⟩ : Option Addr) else (some ⟨b1, off1, none⟩ : Option Addr).map (fun a => a.add (1 * 1))) := ⟨_, rfl⟩
        rw [← hB1] at hcut1
        have HR1 : Hid (SS w w.heap.size B1 X) := by show SS _ _ _ _; rw [hB1]; exact HX.out.rest HN.out hc1
        have HL1 : Hid (n1 - 1 = X.length) := by have := HN.out; show _ = _; simp at this; omega
        have Hs1 := Lib.hid hs1
        clear hB1 hbb1 hs1
        have HE3 : Hid ((K ++ if keep true false then [x] else []) ++ mergeF keep X [] = mergeF keep Ls Ms) := by show _ = _; rw [List.append_assoc, ← merge_left]; exact HE.out
        have HKr : Hid (∀ V, Calls Tryd.prog f #[.bool true, .bool false] V fun e w' => e = .returned (.bool (keep true false)) ∧ V = w') := HKp.out true false
        have Howr := Lib.hid hown
        have Hbwr := Lib.hid hb
        clear HE HKp hown hb
        cases hkr : keep true false with
        | true =>
          rw [hkr] at HE3 HKr
          clear hkr
          go_wp2
          go_quiet (fail)
          have Hqw1 : Hid (Below w.heap.size w (wr.drewN nq)) := ⟨Hbwr.out.os, Hbwr.out.tape, Hbwr.out.output, Hbwr.out.size, Hbwr.out.block⟩
          have How1 : Hid ((wr.drewN nq).ownsRow w.heap.size 9 1 u7 y (scells K)) := Howr.out
          generalize wr.drewN nq = w1 at Hqw1 How1 ⊢
          have Hbw1 := Hqw1
          have hcl1 : w1.cell? ⟨b1, off1, none⟩ = some (.string s1) := (Hbw1.out.cell (p := ⟨b1, off1, none⟩) Hbb1.out).trans Hc1.out
          have hown := How1.out
          have hb := Hbw1.out
          go_wp2_with (first
            | (go_at_fn f; (with_reducible refine (HKr.out _).mono ?_); rintro e w' ⟨rfl, rfl⟩)
            | (at_builtin; refine wpList_append_own _ rfl (.tmp 57) (.tmp 59) _ rfl w.heap.size 9 i0 _ 1 16 Tryd.underlying22 hi0 hz0 hz1 hz2 rfl (by omega) _ y (scells K) rfl (hown.alloc _) ⟨w1.heap.size, 0, none⟩ 1 1 [Value.string s1] rfl rfl (cell_one_new _ _ _) (by intro u hu; rw [List.mem_singleton] at hu; subst hu; rfl) (by simp only [maxLen]; omega) (by omega) (by have := hb.size; simp; omega) ?_; intro v9 w9 ho9 hg9 hat9; have b9 : Below w.heap.size w w9 := (hb.alloc hb.size _).grown hg9 (by have := hb.size; simp; omega) (fun q hq => (hown.lt q hq).1)))
          have e9 : scells K ++ [Value.string s1] = scells (K ++ [x]) := by rw [scells_append, Hs1.out]; rfl
          rw [e9] at ho9
          refine ⟨⟨X, [], K ++ [x], B1, A2, n1 - 1, c1 - 1, 0, c2, y + 1, rfl, rfl, HL1, HM, by omega, by omega, by omega, by omega, HR1, HY, HE3, by show _ = _; rw [Hy.out]; simp, by omega, ho9, b9⟩, ?_⟩
          simp; try omega
        | false =>
          rw [hkr] at HE3 HKr
          clear hkr
          go_wp2
          go_quiet (fail)
          have Hqw1 : Hid (Below w.heap.size w (wr.drewN nq)) := ⟨Hbwr.out.os, Hbwr.out.tape, Hbwr.out.output, Hbwr.out.size, Hbwr.out.block⟩
          have How1 : Hid ((wr.drewN nq).ownsRow w.heap.size 9 1 u7 y (scells K)) := Howr.out
          generalize wr.drewN nq = w1 at Hqw1 How1 ⊢
          have Hbw1 := Hqw1
          have hcl1 : w1.cell? ⟨b1, off1, none⟩ = some (.string s1) := (Hbw1.out.cell (p := ⟨b1, off1, none⟩) Hbb1.out).trans Hc1.out
          have hown := How1.out
          have hb := Hbw1.out
          go_wp2_with (first
            | (go_at_fn f; (with_reducible refine (HKr.out _).mono ?_); rintro e w' ⟨rfl, rfl⟩))
          have HE4 : Hid (K ++ mergeF keep X [] = mergeF keep Ls Ms) := by have := HE3.out; show _ = _; simpa using this
          refine ⟨⟨X, [], K, B1, A2, n1 - 1, c1 - 1, 0, c2, y, rfl, rfl, HL1, HM, by omega, by omega, by omega, by omega, HR1, HY, HE4, Hy, by omega, hown, hb⟩, ?_⟩
          simp; try omega
      · skip
        have hp1 : 0 < n1 := by have := HN.out; simp at this; omega
        have u1 : (0 : Int) < (n1 : Int) := by omega
        have t1 : (1 : Int) ≤ (n1 : Int) := by omega
        have d1 : decide (0 < (n1 : Int)) = true := decide_eq_true u1
        obtain ⟨b1, off1, rfl, hbb1, hcl1⟩ := HX.out.first
        obtain ⟨s1, hs1⟩ : ∃ s, s = text x := ⟨_, rfl⟩
        rw [← hs1] at hcl1
        have Hc1 := Lib.hid hcl1
        rw [← hb.cell (p := ⟨b1, off1, none⟩) hbb1] at hcl1
        have Hbb1 := Lib.hid hbb1
        have hcut1 : ∀ W, (Instr.sliceAt 22 (.slice (some ⟨b1, off1, none⟩) n1 c1) (some (.int .i64 1)) none none).run Tryd.prog W = .ok (.slice (if c1 = 1 then (some ⟨b1, off1, none⟩ : Option Addr) else (some ⟨b1, off1, none⟩ : Option Addr).map (fun a => a.add (1 * 1))) (n1 - 1) (c1 - 1)) W := fun W => sslice_back (some ⟨b1, off1, none⟩) n1 c1 1 W (by omega)
        obtain ⟨B1, hB1⟩ : ∃ B, B = (if c1 = 1 then (some ⟨b1, off1, none⟩ : Option Addr) else (some ⟨b1, off1, none⟩ : Option Addr).map (fun a => a.add (1 * 1))) := ⟨_, rfl⟩
        rw [← hB1] at hcut1
        have HR1 : Hid (SS w w.heap.size B1 X) := by show SS _ _ _ _; rw [hB1]; exact HX.out.rest HN.out hc1
        have HL1 : Hid (n1 - 1 = X.length) := by have := HN.out; show _ = _; simp at this; omega
        have Hs1 := Lib.hid hs1
        clear hB1 hbb1 hs1
        have hp2 : 0 < n2 := by have := HM.out; simp at this; omega
        have u2 : (0 : Int) < (n2 : Int) := by omega
        have t2 : (1 : Int) ≤ (n2 : Int) := by omega
        have d2 : decide (0 < (n2 : Int)) = true := decide_eq_true u2
        obtain ⟨b2, off2, rfl, hbb2, hcl2⟩ := HY.out.first
        obtain ⟨s2, hs2⟩ : ∃ s, s = text z := ⟨_, rfl⟩
        rw [← hs2] at hcl2
        have Hc2 := Lib.hid hcl2
        rw [← hb.cell (p := ⟨b2, off2, none⟩) hbb2] at hcl2
        have Hbb2 := Lib.hid hbb2
        have hcut2 : ∀ W, (Instr.sliceAt 22 (.slice (some ⟨b2, off2, none⟩) n2 c2) (some (.int .i64 1)) none none).run Tryd.prog W = .ok (.slice (if c2 = 1 then (some ⟨b2, off2, none⟩ : Option Addr) else (some ⟨b2, off2, none⟩ : Option Addr).map (fun a => a.add (1 * 1))) (n2 - 1) (c2 - 1)) W := fun W => sslice_back (some ⟨b2, off2, none⟩) n2 c2 1 W (by omega)
        obtain ⟨B2, hB2⟩ : ∃ B, B = (if c2 = 1 then (some ⟨b2, off2, none⟩ : Option Addr) else (some ⟨b2, off2, none⟩ : Option Addr).map (fun a => a.add (1 * 1))) := ⟨_, rfl⟩
        rw [← hB2] at hcut2
        have HR2 : Hid (SS w w.heap.size B2 Y) := by show SS _ _ _ _; rw [hB2]; exact HY.out.rest HM.out hc2
        have HL2 : Hid (n2 - 1 = Y.length) := by have := HM.out; show _ = _; simp at this; omega
        have Hs2 := Lib.hid hs2
        clear hB2 hbb2 hs2
        have HCm : Hid (∀ V, Calls Tryd.prog 53 #[.string s1, .string s2] V fun e w' => e = .returned (.int .i64 (cmpL x z)) ∧ V = w') := fun V => by rw [Hs1.out, Hs2.out]; exact compare_any x z V
        cases hlt : Op.bytesLess x z with
        | true =>
          have hcm : cmpL x z = -1 := by unfold cmpL; rw [hlt]; rfl
          rw [hcm] at HCm
          have Hlt := Lib.hid hlt
          clear hcm hlt
          have HE3 : Hid ((K ++ if keep true false then [x] else []) ++ mergeF keep X (z :: Y) = mergeF keep Ls Ms) := by show _ = _; rw [List.append_assoc, ← merge_lt _ _ _ _ _ Hlt.out]; exact HE.out
          have HKr : Hid (∀ V, Calls Tryd.prog f #[.bool true, .bool false] V fun e w' => e = .returned (.bool (keep true false)) ∧ V = w') := HKp.out true false
          have Howr := Lib.hid hown
          have Hbwr := Lib.hid hb
          clear HE HKp hown hb
          cases hkr : keep true false with
          | true =>
            rw [hkr] at HE3 HKr
            clear hkr
            go_wp2
            go_quiet (with_reducible exact quiet_same HCm)
            have Hqw1 : Hid (Below w.heap.size w (wr.drewN nq)) := ⟨Hbwr.out.os, Hbwr.out.tape, Hbwr.out.output, Hbwr.out.size, Hbwr.out.block⟩
            have How1 : Hid ((wr.drewN nq).ownsRow w.heap.size 9 1 u7 y (scells K)) := Howr.out
            generalize wr.drewN nq = w1 at Hqw1 How1 ⊢
            have Hbw1 := Hqw1
            have hcl1 : w1.cell? ⟨b1, off1, none⟩ = some (.string s1) := (Hbw1.out.cell (p := ⟨b1, off1, none⟩) Hbb1.out).trans Hc1.out
            have hcl2 : w1.cell? ⟨b2, off2, none⟩ = some (.string s2) := (Hbw1.out.cell (p := ⟨b2, off2, none⟩) Hbb2.out).trans Hc2.out
            go_wp2
            go_quiet (fail)
            have Hqw2 : Hid (Below w.heap.size w (w1.drewN nq)) := ⟨Hbw1.out.os, Hbw1.out.tape, Hbw1.out.output, Hbw1.out.size, Hbw1.out.block⟩
            have How2 : Hid ((w1.drewN nq).ownsRow w.heap.size 9 1 u7 y (scells K)) := How1.out
            generalize w1.drewN nq = w2 at Hqw2 How2 ⊢
            have Hbw2 := Hqw2
            have hcl1 : w2.cell? ⟨b1, off1, none⟩ = some (.string s1) := (Hbw2.out.cell (p := ⟨b1, off1, none⟩) Hbb1.out).trans Hc1.out
            have hcl2 : w2.cell? ⟨b2, off2, none⟩ = some (.string s2) := (Hbw2.out.cell (p := ⟨b2, off2, none⟩) Hbb2.out).trans Hc2.out
            have hown := How2.out
            have hb := Hbw2.out
            go_wp2_with (first
              | (go_at_fn f; (with_reducible refine (HKr.out _).mono ?_); rintro e w' ⟨rfl, rfl⟩)
              | (at_builtin; refine wpList_append_own _ rfl (.tmp 57) (.tmp 59) _ rfl w.heap.size 9 i0 _ 1 16 Tryd.underlying22 hi0 hz0 hz1 hz2 rfl (by omega) _ y (scells K) rfl (hown.alloc _) ⟨w2.heap.size, 0, none⟩ 1 1 [Value.string s1] rfl rfl (cell_one_new _ _ _) (by intro u hu; rw [List.mem_singleton] at hu; subst hu; rfl) (by simp only [maxLen]; omega) (by omega) (by have := hb.size; simp; omega) ?_; intro v9 w9 ho9 hg9 hat9; have b9 : Below w.heap.size w w9 := (hb.alloc hb.size _).grown hg9 (by have := hb.size; simp; omega) (fun q hq => (hown.lt q hq).1)))
            have e9 : scells K ++ [Value.string s1] = scells (K ++ [x]) := by rw [scells_append, Hs1.out]; rfl
            rw [e9] at ho9
            refine ⟨⟨X, (z :: Y), K ++ [x], B1, (some ⟨b2, off2, none⟩), n1 - 1, c1 - 1, n2, c2, y + 1, rfl, rfl, HL1, HM, by omega, by omega, by omega, by omega, HR1, HY, HE3, by show _ = _; rw [Hy.out]; simp, by omega, ho9, b9⟩, ?_⟩
            simp; try omega
          | false =>
            rw [hkr] at HE3 HKr
            clear hkr
            go_wp2
            go_quiet (with_reducible exact quiet_same HCm)
            have Hqw1 : Hid (Below w.heap.size w (wr.drewN nq)) := ⟨Hbwr.out.os, Hbwr.out.tape, Hbwr.out.output, Hbwr.out.size, Hbwr.out.block⟩
            have How1 : Hid ((wr.drewN nq).ownsRow w.heap.size 9 1 u7 y (scells K)) := Howr.out
            generalize wr.drewN nq = w1 at Hqw1 How1 ⊢
            have Hbw1 := Hqw1
            have hcl1 : w1.cell? ⟨b1, off1, none⟩ = some (.string s1) := (Hbw1.out.cell (p := ⟨b1, off1, none⟩) Hbb1.out).trans Hc1.out
            have hcl2 : w1.cell? ⟨b2, off2, none⟩ = some (.string s2) := (Hbw1.out.cell (p := ⟨b2, off2, none⟩) Hbb2.out).trans Hc2.out
            go_wp2
            go_quiet (fail)
            have Hqw2 : Hid (Below w.heap.size w (w1.drewN nq)) := ⟨Hbw1.out.os, Hbw1.out.tape, Hbw1.out.output, Hbw1.out.size, Hbw1.out.block⟩
            have How2 : Hid ((w1.drewN nq).ownsRow w.heap.size 9 1 u7 y (scells K)) := How1.out
            generalize w1.drewN nq = w2 at Hqw2 How2 ⊢
            have Hbw2 := Hqw2
            have hcl1 : w2.cell? ⟨b1, off1, none⟩ = some (.string s1) := (Hbw2.out.cell (p := ⟨b1, off1, none⟩) Hbb1.out).trans Hc1.out
            have hcl2 : w2.cell? ⟨b2, off2, none⟩ = some (.string s2) := (Hbw2.out.cell (p := ⟨b2, off2, none⟩) Hbb2.out).trans Hc2.out
            have hown := How2.out
            have hb := Hbw2.out
            go_wp2_with (first
              | (go_at_fn f; (with_reducible refine (HKr.out _).mono ?_); rintro e w' ⟨rfl, rfl⟩))
            have HE4 : Hid (K ++ mergeF keep X (z :: Y) = mergeF keep Ls Ms) := by have := HE3.out; show _ = _; simpa using this
            refine ⟨⟨X, (z :: Y), K, B1, (some ⟨b2, off2, none⟩), n1 - 1, c1 - 1, n2, c2, y, rfl, rfl, HL1, HM, by omega, by omega, by omega, by omega, HR1, HY, HE4, Hy, by omega, hown, hb⟩, ?_⟩
            simp; try omega
        | false =>
          cases hgt : Op.bytesLess z x with
          | true =>
            have hcm : cmpL x z = 1 := by unfold cmpL; rw [hlt, hgt]; rfl
            rw [hcm] at HCm
            have Hlt := Lib.hid hgt
            clear hcm hlt hgt
            have HE3 : Hid ((K ++ if keep false true then [z] else []) ++ mergeF keep (x :: X) Y = mergeF keep Ls Ms) := by show _ = _; rw [List.append_assoc, ← merge_gt _ _ _ _ _ Hlt.out]; exact HE.out
            have HKr : Hid (∀ V, Calls Tryd.prog f #[.bool false, .bool true] V fun e w' => e = .returned (.bool (keep false true)) ∧ V = w') := HKp.out false true
            have Howr := Lib.hid hown
            have Hbwr := Lib.hid hb
            clear HE HKp hown hb
            cases hkr : keep false true with
            | true =>
              rw [hkr] at HE3 HKr
              clear hkr
              go_wp2
              go_quiet (with_reducible exact quiet_same HCm)
              have Hqw1 : Hid (Below w.heap.size w (wr.drewN nq)) := ⟨Hbwr.out.os, Hbwr.out.tape, Hbwr.out.output, Hbwr.out.size, Hbwr.out.block⟩
              have How1 : Hid ((wr.drewN nq).ownsRow w.heap.size 9 1 u7 y (scells K)) := Howr.out
              generalize wr.drewN nq = w1 at Hqw1 How1 ⊢
              have Hbw1 := Hqw1
              have hcl1 : w1.cell? ⟨b1, off1, none⟩ = some (.string s1) := (Hbw1.out.cell (p := ⟨b1, off1, none⟩) Hbb1.out).trans Hc1.out
              have hcl2 : w1.cell? ⟨b2, off2, none⟩ = some (.string s2) := (Hbw1.out.cell (p := ⟨b2, off2, none⟩) Hbb2.out).trans Hc2.out
              go_wp2
              go_quiet (fail)
              have Hqw2 : Hid (Below w.heap.size w (w1.drewN nq)) := ⟨Hbw1.out.os, Hbw1.out.tape, Hbw1.out.output, Hbw1.out.size, Hbw1.out.block⟩
              have How2 : Hid ((w1.drewN nq).ownsRow w.heap.size 9 1 u7 y (scells K)) := How1.out
              generalize w1.drewN nq = w2 at Hqw2 How2 ⊢
              have Hbw2 := Hqw2
              have hcl1 : w2.cell? ⟨b1, off1, none⟩ = some (.string s1) := (Hbw2.out.cell (p := ⟨b1, off1, none⟩) Hbb1.out).trans Hc1.out
              have hcl2 : w2.cell? ⟨b2, off2, none⟩ = some (.string s2) := (Hbw2.out.cell (p := ⟨b2, off2, none⟩) Hbb2.out).trans Hc2.out
              have hown := How2.out
              have hb := Hbw2.out
              go_wp2_with (first
                | (go_at_fn f; (with_reducible refine (HKr.out _).mono ?_); rintro e w' ⟨rfl, rfl⟩)
                | (at_builtin; refine wpList_append_own _ rfl (.tmp 57) (.tmp 59) _ rfl w.heap.size 9 i0 _ 1 16 Tryd.underlying22 hi0 hz0 hz1 hz2 rfl (by omega) _ y (scells K) rfl (hown.alloc _) ⟨w2.heap.size, 0, none⟩ 1 1 [Value.string s2] rfl rfl (cell_one_new _ _ _) (by intro u hu; rw [List.mem_singleton] at hu; subst hu; rfl) (by simp only [maxLen]; omega) (by omega) (by have := hb.size; simp; omega) ?_; intro v9 w9 ho9 hg9 hat9; have b9 : Below w.heap.size w w9 := (hb.alloc hb.size _).grown hg9 (by have := hb.size; simp; omega) (fun q hq => (hown.lt q hq).1)))
              have e9 : scells K ++ [Value.string s2] = scells (K ++ [z]) := by rw [scells_append, Hs2.out]; rfl
              rw [e9] at ho9
              refine ⟨⟨(x :: X), Y, K ++ [z], (some ⟨b1, off1, none⟩), B2, n1, c1, n2 - 1, c2 - 1, y + 1, rfl, rfl, HN, HL2, by omega, by omega, by omega, by omega, HX, HR2, HE3, by show _ = _; rw [Hy.out]; simp, by omega, ho9, b9⟩, ?_⟩
              simp; try omega
            | false =>
              rw [hkr] at HE3 HKr
              clear hkr
              go_wp2
              go_quiet (with_reducible exact quiet_same HCm)
              have Hqw1 : Hid (Below w.heap.size w (wr.drewN nq)) := ⟨Hbwr.out.os, Hbwr.out.tape, Hbwr.out.output, Hbwr.out.size, Hbwr.out.block⟩
              have How1 : Hid ((wr.drewN nq).ownsRow w.heap.size 9 1 u7 y (scells K)) := Howr.out
              generalize wr.drewN nq = w1 at Hqw1 How1 ⊢
              have Hbw1 := Hqw1
              have hcl1 : w1.cell? ⟨b1, off1, none⟩ = some (.string s1) := (Hbw1.out.cell (p := ⟨b1, off1, none⟩) Hbb1.out).trans Hc1.out
              have hcl2 : w1.cell? ⟨b2, off2, none⟩ = some (.string s2) := (Hbw1.out.cell (p := ⟨b2, off2, none⟩) Hbb2.out).trans Hc2.out
              go_wp2
              go_quiet (fail)
              have Hqw2 : Hid (Below w.heap.size w (w1.drewN nq)) := ⟨Hbw1.out.os, Hbw1.out.tape, Hbw1.out.output, Hbw1.out.size, Hbw1.out.block⟩
              have How2 : Hid ((w1.drewN nq).ownsRow w.heap.size 9 1 u7 y (scells K)) := How1.out
              generalize w1.drewN nq = w2 at Hqw2 How2 ⊢
              have Hbw2 := Hqw2
              have hcl1 : w2.cell? ⟨b1, off1, none⟩ = some (.string s1) := (Hbw2.out.cell (p := ⟨b1, off1, none⟩) Hbb1.out).trans Hc1.out
              have hcl2 : w2.cell? ⟨b2, off2, none⟩ = some (.string s2) := (Hbw2.out.cell (p := ⟨b2, off2, none⟩) Hbb2.out).trans Hc2.out
              have hown := How2.out
              have hb := Hbw2.out
              go_wp2_with (first
                | (go_at_fn f; (with_reducible refine (HKr.out _).mono ?_); rintro e w' ⟨rfl, rfl⟩))
              have HE4 : Hid (K ++ mergeF keep (x :: X) Y = mergeF keep Ls Ms) := by have := HE3.out; show _ = _; simpa using this
              refine ⟨⟨(x :: X), Y, K, (some ⟨b1, off1, none⟩), B2, n1, c1, n2 - 1, c2 - 1, y, rfl, rfl, HN, HL2, by omega, by omega, by omega, by omega, HX, HR2, HE4, Hy, by omega, hown, hb⟩, ?_⟩
              simp; try omega
          | false =>
            have hcm : cmpL x z = 0 := by unfold cmpL; rw [hlt, hgt]; rfl
            have hxz : x = z := by
              refine Classical.byContradiction fun h => ?_
              rcases less_total x z h with h3 | h3
              · rw [hlt] at h3; cases h3
              · rw [hgt] at h3; cases h3
            rw [hcm] at HCm
            clear hcm hlt hgt
            subst hxz
            have HE3 : Hid ((K ++ if keep true true then [x] else []) ++ mergeF keep X Y = mergeF keep Ls Ms) := by show _ = _; rw [List.append_assoc, ← merge_eq]; exact HE.out
            have HKr : Hid (∀ V, Calls Tryd.prog f #[.bool true, .bool true] V fun e w' => e = .returned (.bool (keep true true)) ∧ V = w') := HKp.out true true
            have Howr := Lib.hid hown
            have Hbwr := Lib.hid hb
            clear HE HKp hown hb
            cases hkr : keep true true with
            | true =>
              rw [hkr] at HE3 HKr
              clear hkr
              go_wp2
              go_quiet (with_reducible exact quiet_same HCm)
              have Hqw1 : Hid (Below w.heap.size w (wr.drewN nq)) := ⟨Hbwr.out.os, Hbwr.out.tape, Hbwr.out.output, Hbwr.out.size, Hbwr.out.block⟩
              have How1 : Hid ((wr.drewN nq).ownsRow w.heap.size 9 1 u7 y (scells K)) := Howr.out
              generalize wr.drewN nq = w1 at Hqw1 How1 ⊢
              have Hbw1 := Hqw1
              have hcl1 : w1.cell? ⟨b1, off1, none⟩ = some (.string s1) := (Hbw1.out.cell (p := ⟨b1, off1, none⟩) Hbb1.out).trans Hc1.out
              have hcl2 : w1.cell? ⟨b2, off2, none⟩ = some (.string s2) := (Hbw1.out.cell (p := ⟨b2, off2, none⟩) Hbb2.out).trans Hc2.out
              go_wp2
              go_quiet (fail)
              have Hqw2 : Hid (Below w.heap.size w (w1.drewN nq)) := ⟨Hbw1.out.os, Hbw1.out.tape, Hbw1.out.output, Hbw1.out.size, Hbw1.out.block⟩
              have How2 : Hid ((w1.drewN nq).ownsRow w.heap.size 9 1 u7 y (scells K)) := How1.out
              generalize w1.drewN nq = w2 at Hqw2 How2 ⊢
              have Hbw2 := Hqw2
              have hcl1 : w2.cell? ⟨b1, off1, none⟩ = some (.string s1) := (Hbw2.out.cell (p := ⟨b1, off1, none⟩) Hbb1.out).trans Hc1.out
              have hcl2 : w2.cell? ⟨b2, off2, none⟩ = some (.string s2) := (Hbw2.out.cell (p := ⟨b2, off2, none⟩) Hbb2.out).trans Hc2.out
              go_wp2
              go_quiet (fail)
              have Hqw3 : Hid (Below w.heap.size w (w2.drewN nq)) := ⟨Hbw2.out.os, Hbw2.out.tape, Hbw2.out.output, Hbw2.out.size, Hbw2.out.block⟩
              have How3 : Hid ((w2.drewN nq).ownsRow w.heap.size 9 1 u7 y (scells K)) := How2.out
              generalize w2.drewN nq = w3 at Hqw3 How3 ⊢
              have Hbw3 := Hqw3
              have hcl1 : w3.cell? ⟨b1, off1, none⟩ = some (.string s1) := (Hbw3.out.cell (p := ⟨b1, off1, none⟩) Hbb1.out).trans Hc1.out
              have hcl2 : w3.cell? ⟨b2, off2, none⟩ = some (.string s2) := (Hbw3.out.cell (p := ⟨b2, off2, none⟩) Hbb2.out).trans Hc2.out
              have hown := How3.out
              have hb := Hbw3.out
              go_wp2_with (first
                | (go_at_fn f; (with_reducible refine (HKr.out _).mono ?_); rintro e w' ⟨rfl, rfl⟩)
                | (at_builtin; refine wpList_append_own _ rfl (.tmp 57) (.tmp 59) _ rfl w.heap.size 9 i0 _ 1 16 Tryd.underlying22 hi0 hz0 hz1 hz2 rfl (by omega) _ y (scells K) rfl (hown.alloc _) ⟨w3.heap.size, 0, none⟩ 1 1 [Value.string s2] rfl rfl (cell_one_new _ _ _) (by intro u hu; rw [List.mem_singleton] at hu; subst hu; rfl) (by simp only [maxLen]; omega) (by omega) (by have := hb.size; simp; omega) ?_; intro v9 w9 ho9 hg9 hat9; have b9 : Below w.heap.size w w9 := (hb.alloc hb.size _).grown hg9 (by have := hb.size; simp; omega) (fun q hq => (hown.lt q hq).1)))
              have e9 : scells K ++ [Value.string s2] = scells (K ++ [x]) := by rw [scells_append, Hs2.out]; rfl
              rw [e9] at ho9
              refine ⟨⟨X, Y, K ++ [x], B1, B2, n1 - 1, c1 - 1, n2 - 1, c2 - 1, y + 1, rfl, rfl, HL1, HL2, by omega, by omega, by omega, by omega, HR1, HR2, HE3, by show _ = _; rw [Hy.out]; simp, by omega, ho9, b9⟩, ?_⟩
              simp; try omega
            | false =>
              rw [hkr] at HE3 HKr
              clear hkr
              go_wp2
              go_quiet (with_reducible exact quiet_same HCm)
              have Hqw1 : Hid (Below w.heap.size w (wr.drewN nq)) := ⟨Hbwr.out.os, Hbwr.out.tape, Hbwr.out.output, Hbwr.out.size, Hbwr.out.block⟩
              have How1 : Hid ((wr.drewN nq).ownsRow w.heap.size 9 1 u7 y (scells K)) := Howr.out
              generalize wr.drewN nq = w1 at Hqw1 How1 ⊢
              have Hbw1 := Hqw1
              have hcl1 : w1.cell? ⟨b1, off1, none⟩ = some (.string s1) := (Hbw1.out.cell (p := ⟨b1, off1, none⟩) Hbb1.out).trans Hc1.out
              have hcl2 : w1.cell? ⟨b2, off2, none⟩ = some (.string s2) := (Hbw1.out.cell (p := ⟨b2, off2, none⟩) Hbb2.out).trans Hc2.out
              go_wp2
              go_quiet (fail)
              have Hqw2 : Hid (Below w.heap.size w (w1.drewN nq)) := ⟨Hbw1.out.os, Hbw1.out.tape, Hbw1.out.output, Hbw1.out.size, Hbw1.out.block⟩
              have How2 : Hid ((w1.drewN nq).ownsRow w.heap.size 9 1 u7 y (scells K)) := How1.out
              generalize w1.drewN nq = w2 at Hqw2 How2 ⊢
              have Hbw2 := Hqw2
              have hcl1 : w2.cell? ⟨b1, off1, none⟩ = some (.string s1) := (Hbw2.out.cell (p := ⟨b1, off1, none⟩) Hbb1.out).trans Hc1.out
              have hcl2 : w2.cell? ⟨b2, off2, none⟩ = some (.string s2) := (Hbw2.out.cell (p := ⟨b2, off2, none⟩) Hbb2.out).trans Hc2.out
              go_wp2
              go_quiet (fail)
              have Hqw3 : Hid (Below w.heap.size w (w2.drewN nq)) := ⟨Hbw2.out.os, Hbw2.out.tape, Hbw2.out.output, Hbw2.out.size, Hbw2.out.block⟩
              have How3 : Hid ((w2.drewN nq).ownsRow w.heap.size 9 1 u7 y (scells K)) := How2.out
              generalize w2.drewN nq = w3 at Hqw3 How3 ⊢
              have Hbw3 := Hqw3
              have hcl1 : w3.cell? ⟨b1, off1, none⟩ = some (.string s1) := (Hbw3.out.cell (p := ⟨b1, off1, none⟩) Hbb1.out).trans Hc1.out
              have hcl2 : w3.cell? ⟨b2, off2, none⟩ = some (.string s2) := (Hbw3.out.cell (p := ⟨b2, off2, none⟩) Hbb2.out).trans Hc2.out
              have hown := How3.out
              have hb := Hbw3.out
              go_wp2_with (first
                | (go_at_fn f; (with_reducible refine (HKr.out _).mono ?_); rintro e w' ⟨rfl, rfl⟩))
              have HE4 : Hid (K ++ mergeF keep X Y = mergeF keep Ls Ms) := by have := HE3.out; show _ = _; simpa using this
              refine ⟨⟨X, Y, K, B1, B2, n1 - 1, c1 - 1, n2 - 1, c2 - 1, y, rfl, rfl, HL1, HL2, by omega, by omega, by omega, by omega, HR1, HR2, HE4, Hy, by omega, hown, hb⟩, ?_⟩
              simp; try omega

end Go.Proofs.YtmmilgjdngdnfaaDoor
