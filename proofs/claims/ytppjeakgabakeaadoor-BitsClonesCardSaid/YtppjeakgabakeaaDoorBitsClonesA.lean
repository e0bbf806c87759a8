/- The walk of BitsClones (layer 5). -/
import Derived.Test.YtppjeakgabakeaaDoorBitsHeld
set_option linter.unusedVariables false
namespace Go.Proofs.YtppjeakgabakeaaDoor
open Go.RowKit

theorem l2L_ini (D : List (Int × Int)) (hI : ∀ x ∈ D, InI x.1 ∧ InI x.2) (i : Nat) : InI (l2L D i) := by
  unfold l2L
  by_cases h : i < D.length
  · rw [List.getD, List.getElem?_eq_getElem h]; exact (hI _ (List.getElem_mem h)).2
  · rw [List.getD, List.getElem?_eq_none (by omega)]; exact ini_small (by decide)

set_option maxRecDepth 100000 in
set_option maxHeartbeats 40000000 in
theorem clones_good (N : Nat) (D E : List (Int × Int)) (A C : Option Addr) (n c m d : Nat) (w : World) (hN : N ≤ 4096) (HN : Hid (n = D.length)) (HM : Hid (m = E.length)) (hr : DS w w.heap.size A D) (hr2 : DS w w.heap.size C E) (hI : ∀ x ∈ D, InI x.1 ∧ InI x.2) (hI2 : ∀ x ∈ E, InI x.1 ∧ InI x.2) (h40 : n ≤ 40) (h41 : m ≤ 40) (hT : Tz w) :
    Calls Tryd.prog 5 #[.int .i64 (N : Int), .slice A n c, .slice C m d] w fun e w' => e = .returned (.bool true) ∧ Below w.heap.size w w' := by
  have HR := Lib.hid hr
  have HR2 := Lib.hid hr2
  have HI := Lib.hid hI
  have HI2 := Lib.hid hI2
  have HAw : Hid (∀ V, Below w.heap.size w V → Calls Tryd.prog 8 #[] V fun e w' => e = .returned (.bool true) ∧ Below V.heap.size V w') := fun V hb => awake5_any V (hT.below hb hT.lt)
  have HTz := Lib.hid hT
  clear hT
  have nl := Tryd.nilSet
  have nn := Tryd.nilNone
  have ml := Tryd.notNilSet
  have n0 := fun w' => Tryd.notFalse w'
  have n1 := fun w' => Tryd.notTrue w'
  have HO := Lib.hid (bitsOf_any N w hN HTz.out)
  have HO2 := Lib.hid (fun V => refOf_any N V hN)
  have g1 : decide (40 < (n : Int)) = false := decide_eq_false (by omega)
  have g2 : decide ((n : Int) > 40) = false := decide_eq_false (by omega)
  have g3 : decide (40 < n) = false := decide_eq_false (by omega)
  have g4 : decide (40 < (m : Int)) = false := decide_eq_false (by omega)
  have g5 : decide ((m : Int) > 40) = false := decide_eq_false (by omega)
  have g6 : decide (40 < m) = false := decide_eq_false (by omega)
  clear hr hI hr2 hI2
  go_enter Tryd.func5, Tryd.ntmps5
  go_wp2_with (first
    | (go_at_call 6; (with_reducible refine HO.out.mono ?_); rintro e w1 ⟨g, rfl, hg, hS1, hb1⟩)
    | (go_at_call 7; (with_reducible refine (HO2.out _).mono ?_); rintro e w2 ⟨A2, rfl, hB2, hb2, hA2⟩; have b2 := chain5 hb1 hb2))
  obtain ⟨w3, hw3⟩ : ∃ w3, w3 = w2.alloc (.cells #[.slice A2 N N] 29) := ⟨_, rfl⟩
  rw [← hw3]
  have HW : Hid (w1.heap.size ≤ w2.heap.size) := hb2.size
  have b23 : Below w2.heap.size w2 w3 := by rw [hw3]; exact (Below.refl _ _).alloc (Nat.le_refl _) _
  have b3 : Below w.heap.size w w3 := chain5 b2 b23
  have HS3 : Hid (SetAt w3 g (List.replicate N false)) := (hS1.out.below hb2 hS1.out.lt).below b23 (hS1.out.below hb2 hS1.out.lt).lt
  have HH3 : Hid (Held w3 w1.heap.size w2.heap.size N A2 N (List.replicate N false)) := by
    refine ⟨by rw [hw3]; exact Blk.new _ _ _, (Reads.below hB2 b23).more b23.size, fun ad e => ⟨(hA2 ad e).1, by have := (hA2 ad e).2; omega⟩, by simp, Nat.le_refl _, by omega⟩
  obtain ⟨lo, hlo⟩ : ∃ lo, lo = w1.heap.size := ⟨_, rfl⟩
  obtain ⟨gx, hgx⟩ : ∃ gx, gx = w2.heap.size := ⟨_, rfl⟩
  have HG : Hid (g < lo) := by show g < lo; rw [hlo]; exact hS1.out.lt
  have HX : Hid (lo ≤ gx) := by show lo ≤ gx; rw [hlo, hgx]; exact HW.out
  have HGW : Hid (w.heap.size ≤ g) := hg
  rw [← hlo, ← hgx] at HH3
  rw [← hgx]
  clear hw3 HW b23 b2 hb1 hb2 hB2 hA2 hS1 hg hlo hgx HO HO2 g1 g2 g3 g4 g5 g6
  go_loopw [11] (fun v wr => ∃ (k : Nat) (l : List Bool) (A3 : Option Addr) (c3 : Nat), k ≤ n ∧ v = .int .i64 (k : Int) ∧ Hid (SetAt wr g l) ∧ Hid (Held wr lo gx N A3 c3 l) ∧ Below w.heap.size w wr) (fun v _ => n - (intOf v).toNat)
  case atStart => exact ⟨0, _, _, _, by omega, rfl, HS3, HH3, b3⟩
  case round =>
    clear HS3 HH3 b3
    obtain ⟨k, l, A3, c3, hk, rfl, HS, HH, hb⟩ := hrel
    have u0 : (0 : Int) ≤ (k : Int) := by omega
    by_cases hlt : k < n
    · have hkL : k < D.length := by have := HN.out; omega
      have u1 : (k : Int) < (n : Int) := by omega
      have d0 : decide ((k : Int) < (n : Int)) = true := decide_eq_true u1
      have d1 : decide (k < n) = true := decide_eq_true hlt
      obtain ⟨b, off, rfl, hbb, hcc⟩ := HR.out (by omega)
      obtain ⟨hc0, hc1⟩ := hcc k hkL
      obtain ⟨hz0, hz1⟩ := HI.out D[k] (List.getElem_mem _)
      obtain ⟨kd, hkd⟩ : ∃ kd, kd = D[k].1 := ⟨_, rfl⟩
      obtain ⟨zz, hzz⟩ : ∃ zz, zz = D[k].2 := ⟨_, rfl⟩
      rw [← hkd] at hc0
      rw [← hzz] at hc1 hz1
      have HC0 := Lib.hid hc0
      have HC1 := Lib.hid hc1
      have hll : l.length ≤ 4096 := by have := HH.out.len; omega
      have ck0 : wr.cell? ⟨b, off + k * 2, none⟩ = some (.int .i64 kd) := (hb.cell (p := ⟨b, off + k * 2, none⟩) hbb).trans hc0
      have ck1 : wr.cell? ⟨b, off + k * 2 + 1, none⟩ = some (.int .i64 zz) := (hb.cell (p := ⟨b, off + k * 2 + 1, none⟩) hbb).trans hc1
      have ckx : wr.cell? ⟨gx, 0, none⟩ = some (.slice A3 N c3) := HH.out.blk.cell 0
      have HI1 := Lib.hid hz1
      have HBB := Lib.hid hbb
      have HLL := Lib.hid hll
      clear hcc hkd hzz hz0 hz1 hc0 hc1 hkL hbb hll
      by_cases h1 : kd = 1
      · subst h1
        have HA := Lib.hid (bitsAdd_any l g zz wr HI1.out HS.out HLL.out)
        go_wp2_with (first
          | (go_at_call 9; (with_reducible refine HA.out.mono ?_); rintro e w4 ⟨rfl, hS4, ho4⟩; have HO4 := Lib.hid ho4; have b4 := chainO hb ho4 HGW.out; have HH4 := Lib.hid (HH.out.only ho4 HG.out HX.out); have HS4 := Lib.hid hS4; have ck1 : w4.cell? ⟨b, off + k * 2 + 1, none⟩ = some (.int .i64 zz) := (b4.cell (p := ⟨b, off + k * 2 + 1, none⟩) HBB.out).trans HC1.out; have ckx : w4.cell? ⟨gx, 0, none⟩ = some (.slice A3 N c3) := HH4.out.blk.cell 0; clear hS4 ho4))
        have HA2 : Hid (∀ V, (∀ p, V.cell? p = w4.cell? p) → V.heap.size = w4.heap.size → Calls Tryd.prog 10 #[.agg #[.slice A3 N c3], .int .i64 zz] V (GivesSet (addB l zz) N A3 V)) := fun V hV hsz => by
          refine refAdd_any l A3 N c3 V.heap.size zz V HH4.out.len.symm ⟨HH4.out.bs.1, fun h0 => ?_⟩ (by omega) HH4.out.cap HH4.out.max
          obtain ⟨ad, e, hb, hc⟩ := HH4.out.bs.2 h0
          exact ⟨ad, e, by rw [hsz]; exact hb, fun j u hu => by rw [hV]; exact hc j u hu⟩
        go_region_with (first
          | (go_at_call 10; refine (HA2.out w4.drew (fun _ => rfl) rfl).mono ?_; rintro e w5 ⟨A5, c5, rfl, hB5, hc5, hm5, hb5', hA5⟩; have hb5 : Below w4.heap.size w4 w5 := below_drew hb5'; have HB5 := Lib.hid hb5; have K5 := HH4.out.blk.below hb5 HH4.out.blk.lt; have k0 := K5.cell 0; have k1 := K5.frozen 0; have HH5 : Hid (Held (w5.setCell ⟨gx, 0, none⟩ (.slice A5 N c5)) lo gx N A5 c5 (addB l zz).1) := Held.put HH4.out hb5 hB5 ((addB_length l zz).trans HH4.out.len) hc5 hm5 hA5 (by have := HX.out; have := HH4.out.blk.lt; omega); clear hB5 hb5' hb5 hA5 K5))
        all_goals
          have HSw6 : Hid (SetAt (w5.setCell ⟨gx, 0, none⟩ (.slice A5 N c5)) g (addB l zz).1) := (HS4.out.below HB5.out HS4.out.lt).only (only_set w5 gx 0 (.slice A5 N c5)) (by have := HG.out; have := HX.out; omega) (by have := HG.out; have := HX.out; have := HS4.out.pos; omega)
          have bw6 : Below w.heap.size w (w5.setCell ⟨gx, 0, none⟩ (.slice A5 N c5)) := (chain5 b4 HB5.out).setCell (p := ⟨gx, 0, none⟩) (by have := HG.out; have := HX.out; have := HGW.out; show _ ≤ gx; omega) _
          go_wp2
          refine ⟨⟨k + 1, _, A5, c5, by omega, by go_num, HSw6, HH5, bw6⟩, ?_⟩
          simp [intOf]; omega
      · have e1 : (kd == 1) = false := by rw [beq_eq_false_iff_ne]; exact h1
        have e3 : decide (kd = 1) = false := decide_eq_false h1
        go_wp2
        refine ⟨⟨k + 1, l, A3, c3, by omega, by go_num, HS, HH, hb⟩, ?_⟩
        simp [intOf]; omega
    · have d0 : decide ((k : Int) < (n : Int)) = false := decide_eq_false (by omega)
      have d1 : decide (k < n) = false := decide_eq_false (by omega)
      have u2 : ¬ (k : Int) < (n : Int) := by omega
      have hll : l.length ≤ 4096 := by have := HH.out.len; omega
      have HLL := Lib.hid hll
      have HCl := Lib.hid (bitsClone_any l g wr HS.out hll)
      have hdl : n ≤ 1000000 := by omega
      obtain ⟨wo, rfl⟩ : ∃ wo : World, wo = wr := ⟨_, rfl⟩
      clear hll
      go_wp2_with (first
        | (go_at_call 22; (with_reducible refine HCl.out.mono ?_); rintro e w4 ⟨t, rfl, ht, hT4, hb4⟩; have b4 := chain5 hb hb4; have HS4 : Hid (SetAt w4 g l) := HS.out.below hb4 HS.out.lt; have HH4 : Hid (Held w4 lo gx N A3 c3 l) := HH.out.below hb4))
      have HGT : Hid (g ≠ t) := by have := HS.out.lt; have := ht.out; show g ≠ t; omega
      clear HCl hb4 HS HH hb ht
      go_loopw [13] (fun v wr => ∃ (k : Nat) (q : List Bool), k ≤ m ∧ v = .int .i64 (k : Int) ∧ Hid (q.length = N) ∧ Hid (SetAt wr g q) ∧ Hid (SetAt wr t l) ∧ Hid (Held wr lo gx N A3 c3 l) ∧ Below w.heap.size w wr) (fun v _ => m - (intOf v).toNat)
      case atStart => exact ⟨0, l, by omega, rfl, HH4.out.len, HS4, hT4, HH4, b4⟩
      case round =>
        clear HS4 hT4 HH4 b4
        obtain ⟨i, q, hi, rfl, HQ, HS, HT, HH, hb⟩ := hrel
        have v0 : (0 : Int) ≤ (i : Int) := by omega
        by_cases hlt2 : i < m
        · have hiE : i < E.length := by have := HM.out; omega
          have v1 : (i : Int) < (m : Int) := by omega
          have d2 : decide ((i : Int) < (m : Int)) = true := decide_eq_true v1
          have d3 : decide (i < m) = true := decide_eq_true hlt2
          obtain ⟨b, off, rfl, hbb, hcc⟩ := HR2.out (by omega)
          obtain ⟨hc0, hc1⟩ := hcc i hiE
          obtain ⟨hz0, hz1⟩ := HI2.out E[i] (List.getElem_mem _)
          obtain ⟨zz, hzz⟩ : ∃ zz, zz = E[i].2 := ⟨_, rfl⟩
          rw [← hzz] at hc1 hz1
          have ck1 : wr.cell? ⟨b, off + i * 2 + 1, none⟩ = some (.int .i64 zz) := (hb.cell (p := ⟨b, off + i * 2 + 1, none⟩) hbb).trans hc1
          have HA := Lib.hid (bitsAdd_any q g zz wr hz1 HS.out (by have := HQ.out; omega))
          have HL2 : Hid (∀ V, Below w.heap.size w V → Calls Tryd.prog 23 #[.slice A n c, .int .i64 (i : Int)] V fun e w' => e = .returned (.int .i64 (l2L D i)) ∧ Below V.heap.size V w') := fun V hV => l2_any D A n c w.heap.size i V HN (HR.out.below hV) hdl (by omega)
          have HZ := Lib.hid (l2L_ini D HI.out i)
          obtain ⟨y2, hy2⟩ : ∃ y, y = l2L D i := ⟨_, rfl⟩
          rw [← hy2] at HL2 HZ
          have HQA : Hid ((addB q zz).1.length = N) := (addB_length q zz).trans HQ.out
          have hq4 : (addB q zz).1.length ≤ 4096 := by have := HQA.out; omega
          have HQ4 := Lib.hid hq4
          clear hcc hc0 hz0 hc1 hz1 hzz hbb hiE hy2 hq4
          go_wp2_with (first
            | (go_at_call 9; (with_reducible refine HA.out.mono ?_); rintro e w6 ⟨rfl, hS6, ho6⟩; have HS6 := Lib.hid hS6; have b6 := chainO hb ho6 HGW.out; have HT6 : Hid (SetAt w6 t l) := HT.out.only ho6 HGT.out.symm hS6.pos; have HH6 := Lib.hid (HH.out.only ho6 HG.out HX.out); clear hS6)
            | (go_at_call 23; (with_reducible refine (HL2.out _ b6).mono ?_); rintro e w7 ⟨rfl, hb7⟩; have b7 := chain5 b6 hb7; have HS7 := Lib.hid (HS6.out.below hb7 HS6.out.lt); have HT7 : Hid (SetAt w7 t l) := HT6.out.below hb7 HT6.out.lt; have HH7 := Lib.hid (HH6.out.below hb7); have HD7 := Lib.hid (bitsDrop_any (addB q zz).1 g y2 w7 HZ.out HS7.out HQ4.out))
            | (go_at_call 11; (with_reducible refine HD7.out.mono ?_); rintro e w8 ⟨rfl, hS8, ho8⟩; have b8 := chainO b7 ho8 HGW.out; have HT8 : Hid (SetAt w8 t l) := HT7.out.only ho8 HGT.out.symm hS8.pos; have HH8 := Lib.hid (HH7.out.only ho8 HG.out HX.out)))
          refine ⟨⟨i + 1, _, by omega, by go_num, (dropB_length _ _).trans HQA.out, hS8, HT8, HH8, b8⟩, ?_⟩
          simp [intOf]; omega
        · have d2 : decide ((i : Int) < (m : Int)) = false := decide_eq_false (by omega)
          have d3 : decide (i < m) = false := decide_eq_false (by omega)
          have v2 : ¬ (i : Int) < (m : Int) := by omega
          obtain ⟨wp, rfl⟩ : ∃ wp : World, wp = wr := ⟨_, rfl⟩
          clear HS HQ
          go_wp2
          obtain ⟨S, hS⟩ : ∃ S, S = listB l := ⟨_, rfl⟩
          obtain ⟨y, hy⟩ : ∃ y, y = S.length := ⟨_, rfl⟩
          have hlen := HH.out.len
          have hL2 : l.length ≤ 4096 := HLL.out
          have hy4 : y ≤ 4096 := by rw [hy, hS]; have := listK_length l l.length; unfold listB; omega
          have CL : Hid (∀ V, Held V lo gx N A3 c3 l → Calls Tryd.prog 13 #[.agg #[.slice A3 N c3]] V fun e w' => ∃ A c, e = .returned (.slice A y c) ∧ IS w' w'.heap.size A S ∧ Below V.heap.size V w') := fun V hV => by
            refine (refList_any l A3 N c3 V.heap.size V hV.len.symm hV.bs (by omega)).mono ?_
            rintro e w' ⟨A, c, h1, h2, _, _, h3⟩
            rw [← hS] at h1 h2
            rw [← hy] at h1
            exact ⟨A, c, h1, h2, h3⟩
          have CS : Hid (∀ V, SetAt V t l → Calls Tryd.prog 21 #[.pointer (some ⟨t, 0, none⟩)] V fun e w' => ∃ A c, e = .returned (.slice A y c) ∧ IS w' w'.heap.size A S ∧ Below V.heap.size V w') := fun V hV => list_at l t S y V hV hL2 hS.symm hy.symm
          have CI : Hid (∀ V A C c d, IS V V.heap.size A S → IS V V.heap.size C S → Calls Tryd.prog 20 #[.slice A y c, .slice C y d] V fun e w' => e = .returned (.bool true) ∧ Below V.heap.size V w') := fun V A C c d h1 h2 => by
            have := ints_any S S A C y c y d V.heap.size V hy hy h1 h2 (by omega) (by omega)
            rw [decide_eq_true rfl] at this
            exact this
          have CN : Hid (∀ V, Calls Tryd.prog 21 #[.pointer none] V fun e w' => ∃ A c, e = .returned (.slice A 0 c) ∧ Below V.heap.size V w') := fun V => (bitsList_none V).mono fun e w' ⟨A, c, h1, _, _, _, h3⟩ => ⟨A, c, h1, h3⟩
          have hbx : Below wp.heap.size wp wp.drew := (Below.refl _ _).drew
          have b9 := chain5 hb hbx
          have HT9 : Hid (SetAt wp.drew t l) := HT.out.below hbx HT.out.lt
          have HH9 : Hid (Held wp.drew lo gx N A3 c3 l) := HH.out.below hbx
          have ckx : wp.drew.cell? ⟨gx, 0, none⟩ = some (.slice A3 N c3) := HH9.out.blk.cell 0
          clear hbx HT HH hb hS hy hlen hL2 hy4 HR HR2 HI HI2 HN HM
          go_region_held3 (fun w' => w'.cell? ⟨gx, 0, none⟩ = some (.slice A3 N c3)) (assumption) (first
            | (go_at_call 21; (with_reducible refine (CN.out wi).mono ?_); rintro e wj ⟨Aj, cj, rfl, hbj⟩; have bj := chain5 bi hbj; have HHj : Hid (Held wj lo gx N A3 c3 l) := HHi.out.below hbj; have ckxj : wj.cell? ⟨gx, 0, none⟩ = some (.slice A3 N c3) := HHj.out.blk.cell 0)
            | (go_at_call 21; (refine (CS.out wp.drew HT9.out).mono ?_); rintro e wa ⟨Aa, ca, rfl, hIa, hba⟩; have ba := chain5 b9 hba; have HHa : Hid (Held wa lo gx N A3 c3 l) := HH9.out.below hba; have ckxa : wa.cell? ⟨gx, 0, none⟩ = some (.slice A3 N c3) := HHa.out.blk.cell 0; have HIa := Lib.hid hIa; clear hIa)
            | (go_at_call 13; (with_reducible refine (CL.out wa HHa.out).mono ?_); rintro e wb ⟨Ab, cb, rfl, hIb, hbb⟩; have bb := chain5 ba hbb; have ckxb : wb.cell? ⟨gx, 0, none⟩ = some (.slice A3 N c3) := (HHa.out.below hbb).blk.cell 0; have HHb : Hid (Held wb lo gx N A3 c3 l) := HHa.out.below hbb; have HIa2 : Hid (IS wb wb.heap.size Aa S) := Reads.more (Reads.below HIa.out hbb) hbb.size; have HIb := Lib.hid hIb; clear hIb)
            | (go_at_call 20; (with_reducible refine (CI.out wb Aa Ab ca cb HIa2.out HIb.out).mono ?_); rintro e wc ⟨rfl, hbc⟩; have bc := chain5 bb hbc; have HHc : Hid (Held wc lo gx N A3 c3 l) := HHb.out.below hbc; have ckxc : wc.cell? ⟨gx, 0, none⟩ = some (.slice A3 N c3) := HHc.out.blk.cell 0)
            | (go_at_call 9; (with_reducible refine (bitsAdd_none 1 wc).mono ?_); rintro e wd ⟨rfl, hbd⟩; have bd := chain5 bc hbd; have HHd : Hid (Held wd lo gx N A3 c3 l) := HHc.out.below hbd; have ckxd : wd.cell? ⟨gx, 0, none⟩ = some (.slice A3 N c3) := HHd.out.blk.cell 0)
            | (go_at_call 11; (with_reducible refine (bitsDrop_none 1 wd).mono ?_); rintro e we ⟨rfl, hbe⟩; have be := chain5 bd hbe; have HHe : Hid (Held we lo gx N A3 c3 l) := HHd.out.below hbe; have ckxe : we.cell? ⟨gx, 0, none⟩ = some (.slice A3 N c3) := HHe.out.blk.cell 0)
            | (go_at_call 14; (with_reducible refine (bitsHas_none 0 we).mono ?_); rintro e wf ⟨rfl, hbf⟩; have bf := chain5 be hbf; have HHf : Hid (Held wf lo gx N A3 c3 l) := HHe.out.below hbf; have ckxf : wf.cell? ⟨gx, 0, none⟩ = some (.slice A3 N c3) := HHf.out.blk.cell 0)
            | (go_at_call 19; (with_reducible refine (bitsCount_none wf).mono ?_); rintro e wg ⟨rfl, hbg⟩; have bg := chain5 bf hbg; have HHg : Hid (Held wg lo gx N A3 c3 l) := HHf.out.below hbg; have ckxg : wg.cell? ⟨gx, 0, none⟩ = some (.slice A3 N c3) := HHg.out.blk.cell 0)
            | (go_at_call 16; (with_reducible refine (bitsNext_none 0 wg).mono ?_); rintro e wh ⟨rfl, hbh⟩; have bh := chain5 bg hbh; have HHh : Hid (Held wh lo gx N A3 c3 l) := HHg.out.below hbh; have ckxh : wh.cell? ⟨gx, 0, none⟩ = some (.slice A3 N c3) := HHh.out.blk.cell 0)
            | (go_at_call 18; (with_reducible refine (bitsGap_none 0 wh).mono ?_); rintro e wi ⟨rfl, hbi⟩; have bi := chain5 bh hbi; have HHi : Hid (Held wi lo gx N A3 c3 l) := HHh.out.below hbi; have ckxi : wi.cell? ⟨gx, 0, none⟩ = some (.slice A3 N c3) := HHi.out.blk.cell 0)
            | (go_at_call 22; (with_reducible refine (bitsClone_none wj).mono ?_); rintro e wk ⟨rfl, hbk⟩; have bk := chain5 bj hbk; have HHk : Hid (Held wk lo gx N A3 c3 l) := HHj.out.below hbk; have ckxk : wk.cell? ⟨gx, 0, none⟩ = some (.slice A3 N c3) := HHk.out.blk.cell 0)
            | (go_at_call 8; (with_reducible refine (HAw.out wk (by assumption)).mono ?_); rintro e wl ⟨rfl, hbl⟩; have bl := chain5 bk hbl; have HHl : Hid (Held wl lo gx N A3 c3 l) := HHk.out.below hbl; have ckxl : wl.cell? ⟨gx, 0, none⟩ = some (.slice A3 N c3) := HHl.out.blk.cell 0))
          go_wp2
          go_ret
          exact ⟨rfl, bl⟩

end Go.Proofs.YtppjeakgabakeaaDoor
