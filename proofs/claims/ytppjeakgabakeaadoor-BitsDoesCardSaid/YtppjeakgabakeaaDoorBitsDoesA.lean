/- The walk of BitsDoes within the limits (layer 5). -/
import Derived.Test.YtppjeakgabakeaaDoorBitsHeld
set_option linter.unusedVariables false
namespace Go.Proofs.YtppjeakgabakeaaDoor
open Go.RowKit

set_option maxRecDepth 100000 in
set_option maxHeartbeats 40000000 in
theorem does_good (N : Nat) (D : List (Int × Int)) (A : Option Addr) (n c : Nat) (w : World) (hN : N ≤ 4096) (HN : Hid (n = D.length)) (hr : DS w w.heap.size A D) (hI : ∀ x ∈ D, InI x.1 ∧ InI x.2) (hc : n ≤ c) (hcm : c ≤ 9223372036854775807) (h60 : n ≤ 60) (hT : Tz w) :
    Calls Tryd.prog 3 #[.int .i64 (N : Int), .slice A n c] w fun e w' => e = .returned (.bool true) ∧ Below w.heap.size w w' := by
  have HR := Lib.hid hr
  have HI := Lib.hid hI
  have HAw : Hid (∀ V, Below w.heap.size w V → Calls Tryd.prog 8 #[] V fun e w' => e = .returned (.bool true) ∧ Below V.heap.size V w') := fun V hb => awake5_any V (hT.below hb hT.lt)
  have HTz := Lib.hid hT
  clear hT
  have nl := Tryd.nilSet
  have ml := Tryd.notNilSet
  have n0 := fun w' => Tryd.notFalse w'
  have n1 := fun w' => Tryd.notTrue w'
  have HO := Lib.hid (bitsOf_any N w hN HTz.out)
  have HO2 := Lib.hid (fun V => refOf_any N V hN)
  have g1 : decide (60 < (n : Int)) = false := decide_eq_false (by omega)
  have g2 : decide ((n : Int) > 60) = false := decide_eq_false (by omega)
  have g3 : decide (60 < n) = false := decide_eq_false (by omega)
  clear hr hI
  go_enter Tryd.func3, Tryd.ntmps3
  go_wp2_with (first
    | (go_at_call 6; (with_reducible refine HO.out.mono ?_); rintro e w1 ⟨g, rfl, hg, hS1, hb1⟩)
    | (go_at_call 7; (with_reducible refine (HO2.out _).mono ?_); rintro e w2 ⟨A2, rfl, hB2, hb2, hA2⟩; have b2 := chain5 hb1 hb2))
  obtain ⟨w3, hw3⟩ : ∃ w3, w3 = w2.alloc (.cells #[.slice A2 N N] 29) := ⟨_, rfl⟩
  rw [← hw3]
  have HW : Hid (w1.heap.size ≤ w2.heap.size) := hb2.size
  have b23 : Below w2.heap.size w2 w3 := by rw [hw3]; exact (Below.refl _ _).alloc (Nat.le_refl _) _
  have b3 : Below w.heap.size w w3 := chain5 b2 b23
  have HS3 : Hid (SetAt w3 g (List.replicate N false)) := (hS1.out.below hb2 hS1.out.lt).below b23 (hS1.out.below hb2 hS1.out.lt).lt
  have HH3 : Hid (Held w3 w1.heap.size w2.heap.size N A2 N (List.replicate N false)) := by
    refine ⟨by rw [hw3]; exact Blk.new _ _ _, (Reads.below hB2 b23).more b23.size, fun ad e => ⟨(hA2 ad e).1, by have := (hA2 ad e).2; omega⟩, by simp, Nat.le_refl _, by omega⟩
  obtain ⟨lo, hlo⟩ : ∃ lo, lo = w1.heap.size := ⟨_, rfl⟩
  obtain ⟨gx, hgx⟩ : ∃ gx, gx = w2.heap.size := ⟨_, rfl⟩
  have HG : Hid (g < lo) := by show g < lo; rw [hlo]; exact hS1.out.lt
  have HX : Hid (lo ≤ gx) := by show lo ≤ gx; rw [hlo, hgx]; exact HW.out
  have HGW : Hid (w.heap.size ≤ g) := hg
  rw [← hlo, ← hgx] at HH3
  rw [← hgx]
  clear hw3 HW b23 b2 hb1 hb2 hB2 hA2 hS1 hg hlo hgx HO HO2
  go_loopw [9] (fun v wr => ∃ (k : Nat) (l : List Bool) (A3 : Option Addr) (c3 : Nat), k ≤ n ∧ v = .int .i64 (k : Int) ∧ Hid (SetAt wr g l) ∧ Hid (Held wr lo gx N A3 c3 l) ∧ Below w.heap.size w wr) (fun v _ => n - (intOf v).toNat)
  case atStart => exact ⟨0, _, _, _, by omega, rfl, HS3, HH3, b3⟩
  case round =>
    clear HS3 HH3 b3
    obtain ⟨k, l, A3, c3, hk, rfl, HS, HH, hb⟩ := hrel
    have u0 : (0 : Int) ≤ (k : Int) := by omega
    by_cases hlt : k < n
    · have hkL : k < D.length := by have := HN.out; omega
      have u1 : (k : Int) < (n : Int) := by omega
      have d0 : decide ((k : Int) < (n : Int)) = true := decide_eq_true u1
      have d1 : decide (k < n) = true := decide_eq_true hlt
      obtain ⟨b, off, rfl, hbb, hcc⟩ := HR.out (by omega)
      obtain ⟨hc0, hc1⟩ := hcc k hkL
      obtain ⟨hz0, hz1⟩ := HI.out D[k] (List.getElem_mem _)
      obtain ⟨kd, hkd⟩ : ∃ kd, kd = D[k].1 := ⟨_, rfl⟩
      obtain ⟨zz, hzz⟩ : ∃ zz, zz = D[k].2 := ⟨_, rfl⟩
      rw [← hkd] at hc0
      rw [← hzz] at hc1 hz1
      have HC0 := Lib.hid hc0
      have HC1 := Lib.hid hc1
      have hll : l.length ≤ 4096 := by have := HH.out.len; omega
      have ck0 : wr.cell? ⟨b, off + k * 2, none⟩ = some (.int .i64 kd) := (hb.cell (p := ⟨b, off + k * 2, none⟩) hbb).trans hc0
      have ck1 : wr.cell? ⟨b, off + k * 2 + 1, none⟩ = some (.int .i64 zz) := (hb.cell (p := ⟨b, off + k * 2 + 1, none⟩) hbb).trans hc1
      have ckx : wr.cell? ⟨gx, 0, none⟩ = some (.slice A3 N c3) := HH.out.blk.cell 0
      have HI1 := Lib.hid hz1
      have HBB := Lib.hid hbb
      have HLL := Lib.hid hll
      clear hcc hkd hzz hz0 hz1 hc0 hc1 hkL hbb hll
      go_upto_block 2 with (fail)
      go_cut [10, 11] from 51 to 173 (fun s10 s11 wx => ∃ (l2 : List Bool) (A5 : Option Addr) (c5 : Nat) (r2 : Int), s10 = .int .i64 r2 ∧ s11 = .int .i64 r2 ∧ Hid (SetAt wx g l2) ∧ Hid (Held wx lo gx N A5 c5 l2) ∧ Below w.heap.size w wx)
      case first =>
        by_cases h1 : kd = 1
        · subst h1
          have HA := Lib.hid (bitsAdd_any l g zz wr HI1.out HS.out HLL.out)
          go_wp2_with (first
            | (go_at_call 9; (with_reducible refine HA.out.mono ?_); rintro e w4 ⟨rfl, hS4, ho4⟩; have HO4 := Lib.hid ho4; have b4 := chainO hb ho4 HGW.out; have HH4 := Lib.hid (HH.out.only ho4 HG.out HX.out); have HS4 := Lib.hid hS4; have ck1 : w4.cell? ⟨b, off + k * 2 + 1, none⟩ = some (.int .i64 zz) := (b4.cell (p := ⟨b, off + k * 2 + 1, none⟩) HBB.out).trans HC1.out; have ckx : w4.cell? ⟨gx, 0, none⟩ = some (.slice A3 N c3) := HH4.out.blk.cell 0; clear hS4 ho4))
          have HA2 : Hid (∀ V, (∀ p, V.cell? p = w4.cell? p) → V.heap.size = w4.heap.size → Calls Tryd.prog 10 #[.agg #[.slice A3 N c3], .int .i64 zz] V (GivesSet (addB l zz) N A3 V)) := fun V hV hsz => by
            refine refAdd_any l A3 N c3 V.heap.size zz V HH4.out.len.symm ⟨HH4.out.bs.1, fun h0 => ?_⟩ (by omega) HH4.out.cap HH4.out.max
            obtain ⟨ad, e, hb, hc⟩ := HH4.out.bs.2 h0
            exact ⟨ad, e, by rw [hsz]; exact hb, fun j u hu => by rw [hV]; exact hc j u hu⟩
          go_region_with (first
            | (go_at_call 10; refine (HA2.out w4.drew (fun _ => rfl) rfl).mono ?_; rintro e w5 ⟨A5, c5, rfl, hB5, hc5, hm5, hb5', hA5⟩; have hb5 : Below w4.heap.size w4 w5 := below_drew hb5'; have HB5 := Lib.hid hb5; have K5 := HH4.out.blk.below hb5 HH4.out.blk.lt; have k0 := K5.cell 0; have k1 := K5.frozen 0; have HH5 : Hid (Held (w5.setCell ⟨gx, 0, none⟩ (.slice A5 N c5)) lo gx N A5 c5 (addB l zz).1) := Held.put HH4.out hb5 hB5 ((addB_length l zz).trans HH4.out.len) hc5 hm5 hA5 (by have := HX.out; have := HH4.out.blk.lt; omega); clear hB5 hb5' hb5 hA5 K5))
          all_goals
            have HSw6 : Hid (SetAt (w5.setCell ⟨gx, 0, none⟩ (.slice A5 N c5)) g (addB l zz).1) := (HS4.out.below HB5.out HS4.out.lt).only (only_set w5 gx 0 (.slice A5 N c5)) (by have := HG.out; have := HX.out; omega) (by have := HG.out; have := HX.out; have := HS4.out.pos; omega)
            have bw6 : Below w.heap.size w (w5.setCell ⟨gx, 0, none⟩ (.slice A5 N c5)) := (chain5 b4 HB5.out).setCell (p := ⟨gx, 0, none⟩) (by have := HG.out; have := HX.out; have := HGW.out; show _ ≤ gx; omega) _
            go_wp2
            go_meet
            exact ⟨(addB l zz).1, A5, c5, (addB l zz).2, rfl, rfl, HSw6, HH5, bw6⟩
        · by_cases h2 : kd = 2
          · subst h2
            have HA := Lib.hid (bitsDrop_any l g zz wr HI1.out HS.out HLL.out)
            go_wp2_with (first
              | (go_at_call 11; (with_reducible refine HA.out.mono ?_); rintro e w4 ⟨rfl, hS4, ho4⟩; have HO4 := Lib.hid ho4; have b4 := chainO hb ho4 HGW.out; have HH4 := Lib.hid (HH.out.only ho4 HG.out HX.out); have HS4 := Lib.hid hS4; have ck1 : w4.cell? ⟨b, off + k * 2 + 1, none⟩ = some (.int .i64 zz) := (b4.cell (p := ⟨b, off + k * 2 + 1, none⟩) HBB.out).trans HC1.out; have ckx : w4.cell? ⟨gx, 0, none⟩ = some (.slice A3 N c3) := HH4.out.blk.cell 0; clear hS4 ho4))
            have HA2 : Hid (∀ V, (∀ p, V.cell? p = w4.cell? p) → V.heap.size = w4.heap.size → Calls Tryd.prog 12 #[.agg #[.slice A3 N c3], .int .i64 zz] V (GivesSet (dropB l zz) N A3 V)) := fun V hV hsz => by
              refine refDrop_any l A3 N c3 V.heap.size zz V HH4.out.len.symm ⟨HH4.out.bs.1, fun h0 => ?_⟩ (by omega) HH4.out.cap HH4.out.max
              obtain ⟨ad, e, hb, hc⟩ := HH4.out.bs.2 h0
              exact ⟨ad, e, by rw [hsz]; exact hb, fun j u hu => by rw [hV]; exact hc j u hu⟩
            go_region_with (first
              | (go_at_call 12; refine (HA2.out w4.drew (fun _ => rfl) rfl).mono ?_; rintro e w5 ⟨A5, c5, rfl, hB5, hc5, hm5, hb5', hA5⟩; have hb5 : Below w4.heap.size w4 w5 := below_drew hb5'; have HB5 := Lib.hid hb5; have K5 := HH4.out.blk.below hb5 HH4.out.blk.lt; have k0 := K5.cell 0; have k1 := K5.frozen 0; have HH5 : Hid (Held (w5.setCell ⟨gx, 0, none⟩ (.slice A5 N c5)) lo gx N A5 c5 (dropB l zz).1) := Held.put HH4.out hb5 hB5 ((dropB_length l zz).trans HH4.out.len) hc5 hm5 hA5 (by have := HX.out; have := HH4.out.blk.lt; omega); clear hB5 hb5' hb5 hA5 K5))
            all_goals
              have HSw6 : Hid (SetAt (w5.setCell ⟨gx, 0, none⟩ (.slice A5 N c5)) g (dropB l zz).1) := (HS4.out.below HB5.out HS4.out.lt).only (only_set w5 gx 0 (.slice A5 N c5)) (by have := HG.out; have := HX.out; omega) (by have := HG.out; have := HX.out; have := HS4.out.pos; omega)
              have bw6 : Below w.heap.size w (w5.setCell ⟨gx, 0, none⟩ (.slice A5 N c5)) := (chain5 b4 HB5.out).setCell (p := ⟨gx, 0, none⟩) (by have := HG.out; have := HX.out; have := HGW.out; show _ ≤ gx; omega) _
              go_wp2
              go_meet
              exact ⟨(dropB l zz).1, A5, c5, (dropB l zz).2, rfl, rfl, HSw6, HH5, bw6⟩
          · have e1 : (kd == 1) = false := by rw [beq_eq_false_iff_ne]; exact h1
            have e2 : (kd == 2) = false := by rw [beq_eq_false_iff_ne]; exact h2
            have e3 : decide (kd = 1) = false := decide_eq_false h1
            have e4 : decide (kd = 2) = false := decide_eq_false h2
            go_wp2
            go_meet
            exact ⟨l, A3, c3, 0, rfl, rfl, HS, HH, hb⟩
      case rest =>
        clear HS HH hb ck0 ck1 ckx
        obtain ⟨l2, A5, c5, r2, rfl, rfl, HSw6, HHw6, bw6⟩ := hcut
        obtain ⟨w6, rfl⟩ : ∃ w6 : World, w6 = wc := ⟨_, rfl⟩
        have ck1w6 : w6.cell? ⟨b, off + k * 2 + 1, none⟩ = some (.int .i64 zz) := (bw6.cell (p := ⟨b, off + k * 2 + 1, none⟩) HBB.out).trans HC1.out
        have ckxw6 : w6.cell? ⟨gx, 0, none⟩ = some (.slice A5 N c5) := HHw6.out.blk.cell 0
        obtain ⟨S, hS⟩ : ∃ S, S = listB l2 := ⟨_, rfl⟩
        obtain ⟨m, hm⟩ : ∃ m, m = S.length := ⟨_, rfl⟩
        obtain ⟨hh, hhh⟩ : ∃ h, h = inB l2 zz := ⟨_, rfl⟩
        obtain ⟨f1, hf1⟩ : ∃ f, f = firstB l2 zz true := ⟨_, rfl⟩
        obtain ⟨f2, hf2⟩ : ∃ f, f = firstB l2 zz false := ⟨_, rfl⟩
        have hlen := HHw6.out.len
        have hL2 : l2.length ≤ 4096 := by omega
        have hm4 : m ≤ 4096 := by rw [hm, hS]; have := listK_length l2 l2.length; unfold listB; omega
        have hcap := HHw6.out.cap
        have hmax := HHw6.out.max
        have CL : Hid (∀ V, Held V lo gx N A5 c5 l2 → Calls Tryd.prog 13 #[.agg #[.slice A5 N c5]] V fun e w' => ∃ A c, e = .returned (.slice A m c) ∧ IS w' w'.heap.size A S ∧ Below V.heap.size V w') := fun V hV => by
          refine (refList_any l2 A5 N c5 V.heap.size V hV.len.symm hV.bs (by omega)).mono ?_
          rintro e w' ⟨A, c, h1, h2, _, _, h3⟩
          rw [← hS] at h1 h2
          rw [← hm] at h1
          exact ⟨A, c, h1, h2, h3⟩
        have CH : Hid (∀ V, SetAt V g l2 → Calls Tryd.prog 14 #[.pointer (some ⟨g, 0, none⟩), .int .i64 zz] V fun e w' => e = .returned (.bool hh) ∧ Below V.heap.size V w') := fun V hV => has_at l2 g zz hh V HI1.out hV hL2 hhh.symm
        have CN : Hid (∀ V, SetAt V g l2 → Calls Tryd.prog 16 #[.pointer (some ⟨g, 0, none⟩), .int .i64 zz] V fun e w' => e = .returned (.int .i64 f1) ∧ Below V.heap.size V w') := fun V hV => next_at l2 g zz f1 V HI1.out hV hL2 hf1.symm
        have CG : Hid (∀ V, SetAt V g l2 → Calls Tryd.prog 18 #[.pointer (some ⟨g, 0, none⟩), .int .i64 zz] V fun e w' => e = .returned (.int .i64 f2) ∧ Below V.heap.size V w') := fun V hV => gap_at l2 g zz f2 V HI1.out hV hL2 hf2.symm
        have CC : Hid (∀ V, SetAt V g l2 → Calls Tryd.prog 19 #[.pointer (some ⟨g, 0, none⟩)] V fun e w' => e = .returned (.int .i64 (m : Int)) ∧ Below V.heap.size V w') := fun V hV => count_at l2 g m V hV hL2 (by rw [hm, hS])
        have CS : Hid (∀ V, SetAt V g l2 → Calls Tryd.prog 21 #[.pointer (some ⟨g, 0, none⟩)] V fun e w' => ∃ A c, e = .returned (.slice A m c) ∧ IS w' w'.heap.size A S ∧ Below V.heap.size V w') := fun V hV => list_at l2 g S m V hV hL2 hS.symm hm.symm
        have RH : Hid (∀ V, Held V lo gx N A5 c5 l2 → Calls Tryd.prog 15 #[.agg #[.slice A5 N c5], .int .i64 zz] V fun e w' => e = .returned (.bool hh) ∧ Below V.heap.size V w') := fun V hV => by rw [hhh]; exact refHas_any l2 A5 N c5 V.heap.size zz V hV.len.symm hV.bs (by omega)
        have RF1 : Hid (∀ V, Held V lo gx N A5 c5 l2 → Calls Tryd.prog 17 #[.agg #[.slice A5 N c5], .int .i64 zz, .bool true] V fun e w' => e = .returned (.int .i64 f1) ∧ Below V.heap.size V w') := fun V hV => by rw [hf1]; exact refFirst_any l2 A5 N c5 V.heap.size zz true V hV.len.symm hV.bs (by omega)
        have RF2 : Hid (∀ V, Held V lo gx N A5 c5 l2 → Calls Tryd.prog 17 #[.agg #[.slice A5 N c5], .int .i64 zz, .bool false] V fun e w' => e = .returned (.int .i64 f2) ∧ Below V.heap.size V w') := fun V hV => by rw [hf2]; exact refFirst_any l2 A5 N c5 V.heap.size zz false V hV.len.symm hV.bs (by omega)
        have CI : Hid (∀ V A C c d, IS V V.heap.size A S → IS V V.heap.size C S → Calls Tryd.prog 20 #[.slice A m c, .slice C m d] V fun e w' => e = .returned (.bool true) ∧ Below V.heap.size V w') := fun V A C c d h1 h2 => by
          have := ints_any S S A C m c m d V.heap.size V hm hm h1 h2 (by omega) (by omega)
          rw [decide_eq_true rfl] at this
          exact this
        have HLn := Lib.hid hlen
        clear hS hm hhh hf1 hf2 hlen hL2 hm4 hcap hmax HI1 HLL
        go_wp2_with (first
          | (go_at_call 13; (with_reducible refine (CL.out w6 HHw6.out).mono ?_); rintro e w0 ⟨A7, c7, rfl, hI7, hbw0⟩; have bw0 := chain5 bw6 hbw0; have HSw0 : Hid (SetAt w0 g l2) := HSw6.out.below hbw0 HSw6.out.lt; have HHw0 : Hid (Held w0 lo gx N A5 c5 l2) := HHw6.out.below hbw0; have ck1w0 : w0.cell? ⟨b, off + k * 2 + 1, none⟩ = some (.int .i64 zz) := (bw0.cell (p := ⟨b, off + k * 2 + 1, none⟩) HBB.out).trans HC1.out; have ckxw0 : w0.cell? ⟨gx, 0, none⟩ = some (.slice A5 N c5) := HHw0.out.blk.cell 0; have HI7 := Lib.hid hI7; clear hI7))
        have hbx : Below w0.heap.size w0 w0.drew := (Below.refl _ _).drew
        have bw7 := chain5 bw0 hbx
        have HSw7 : Hid (SetAt w0.drew g l2) := HSw0.out.below hbx HSw0.out.lt
        have HHw7 : Hid (Held w0.drew lo gx N A5 c5 l2) := HHw0.out.below hbx
        have HI70 : Hid (IS w0.drew w0.drew.heap.size A7 S) := HI7.out
        have ck1w7 : w0.drew.cell? ⟨b, off + k * 2 + 1, none⟩ = some (.int .i64 zz) := ck1w0
        have ckxw7 : w0.drew.cell? ⟨gx, 0, none⟩ = some (.slice A5 N c5) := ckxw0
        clear HI7 hbw0 hbx ck1w0 ckxw0 HSw0 HHw0 HSw6 HHw6 ck1w6 ckxw6 bw0
        simp only [List.append]
        go_region_held3 (fun w' => w'.cell? ⟨gx, 0, none⟩ = some (.slice A5 N c5) ∧ w'.cell? ⟨b, off + k * 2 + 1, none⟩ = some (.int .i64 zz)) (first | exact ⟨by assumption, by assumption⟩) (first
          | (go_at_call 14; (refine (CH.out w0.drew HSw7.out).mono ?_); rintro e w8 ⟨rfl, hbw8⟩; have bw8 := chain5 bw7 hbw8; have HSw8 : Hid (SetAt w8 g l2) := HSw7.out.below hbw8 HSw7.out.lt; have HHw8 : Hid (Held w8 lo gx N A5 c5 l2) := HHw7.out.below hbw8; have ck1w8 : w8.cell? ⟨b, off + k * 2 + 1, none⟩ = some (.int .i64 zz) := (bw8.cell (p := ⟨b, off + k * 2 + 1, none⟩) HBB.out).trans HC1.out; have ckxw8 : w8.cell? ⟨gx, 0, none⟩ = some (.slice A5 N c5) := HHw8.out.blk.cell 0; have HI8 : Hid (IS w8 w8.heap.size A7 S) := Reads.more (Reads.below HI70.out hbw8) hbw8.size)
          | (go_at_call 15; (with_reducible refine (RH.out w8 HHw8.out).mono ?_); rintro e w9 ⟨rfl, hbw9⟩; have bw9 := chain5 bw8 hbw9; have HSw9 : Hid (SetAt w9 g l2) := HSw8.out.below hbw9 HSw8.out.lt; have HHw9 : Hid (Held w9 lo gx N A5 c5 l2) := HHw8.out.below hbw9; have ck1w9 : w9.cell? ⟨b, off + k * 2 + 1, none⟩ = some (.int .i64 zz) := (bw9.cell (p := ⟨b, off + k * 2 + 1, none⟩) HBB.out).trans HC1.out; have ckxw9 : w9.cell? ⟨gx, 0, none⟩ = some (.slice A5 N c5) := HHw9.out.blk.cell 0; have HI9 : Hid (IS w9 w9.heap.size A7 S) := Reads.more (Reads.below HI8.out hbw9) hbw9.size)
          | (go_at_call 16; (with_reducible refine (CN.out w9 HSw9.out).mono ?_); rintro e wa ⟨rfl, hbwa⟩; have bwa := chain5 bw9 hbwa; have HSwa : Hid (SetAt wa g l2) := HSw9.out.below hbwa HSw9.out.lt; have HHwa : Hid (Held wa lo gx N A5 c5 l2) := HHw9.out.below hbwa; have ck1wa : wa.cell? ⟨b, off + k * 2 + 1, none⟩ = some (.int .i64 zz) := (bwa.cell (p := ⟨b, off + k * 2 + 1, none⟩) HBB.out).trans HC1.out; have ckxwa : wa.cell? ⟨gx, 0, none⟩ = some (.slice A5 N c5) := HHwa.out.blk.cell 0; have HIa : Hid (IS wa wa.heap.size A7 S) := Reads.more (Reads.below HI9.out hbwa) hbwa.size)
          | (go_at_call 18; (with_reducible refine (CG.out wb HSwb.out).mono ?_); rintro e wc ⟨rfl, hbwc⟩; have bwc := chain5 bwb hbwc; have HSwc : Hid (SetAt wc g l2) := HSwb.out.below hbwc HSwb.out.lt; have HHwc : Hid (Held wc lo gx N A5 c5 l2) := HHwb.out.below hbwc; have ck1wc : wc.cell? ⟨b, off + k * 2 + 1, none⟩ = some (.int .i64 zz) := (bwc.cell (p := ⟨b, off + k * 2 + 1, none⟩) HBB.out).trans HC1.out; have ckxwc : wc.cell? ⟨gx, 0, none⟩ = some (.slice A5 N c5) := HHwc.out.blk.cell 0; have HIc : Hid (IS wc wc.heap.size A7 S) := Reads.more (Reads.below HIb.out hbwc) hbwc.size)
          | (go_at_call 17; (with_reducible refine (RF2.out wc HHwc.out).mono ?_); rintro e wd ⟨rfl, hbwd⟩; have bwd := chain5 bwc hbwd; have HSwd : Hid (SetAt wd g l2) := HSwc.out.below hbwd HSwc.out.lt; have HHwd : Hid (Held wd lo gx N A5 c5 l2) := HHwc.out.below hbwd; have ck1wd : wd.cell? ⟨b, off + k * 2 + 1, none⟩ = some (.int .i64 zz) := (bwd.cell (p := ⟨b, off + k * 2 + 1, none⟩) HBB.out).trans HC1.out; have ckxwd : wd.cell? ⟨gx, 0, none⟩ = some (.slice A5 N c5) := HHwd.out.blk.cell 0; have HId : Hid (IS wd wd.heap.size A7 S) := Reads.more (Reads.below HIc.out hbwd) hbwd.size)
          | (go_at_call 17; (with_reducible refine (RF1.out wa HHwa.out).mono ?_); rintro e wb ⟨rfl, hbwb⟩; have bwb := chain5 bwa hbwb; have HSwb : Hid (SetAt wb g l2) := HSwa.out.below hbwb HSwa.out.lt; have HHwb : Hid (Held wb lo gx N A5 c5 l2) := HHwa.out.below hbwb; have ck1wb : wb.cell? ⟨b, off + k * 2 + 1, none⟩ = some (.int .i64 zz) := (bwb.cell (p := ⟨b, off + k * 2 + 1, none⟩) HBB.out).trans HC1.out; have ckxwb : wb.cell? ⟨gx, 0, none⟩ = some (.slice A5 N c5) := HHwb.out.blk.cell 0; have HIb : Hid (IS wb wb.heap.size A7 S) := Reads.more (Reads.below HIa.out hbwb) hbwb.size)
          | (go_at_call 19; (with_reducible refine (CC.out wd HSwd.out).mono ?_); rintro e we ⟨rfl, hbwe⟩; have bwe := chain5 bwd hbwe; have HSwe : Hid (SetAt we g l2) := HSwd.out.below hbwe HSwd.out.lt; have HHwe : Hid (Held we lo gx N A5 c5 l2) := HHwd.out.below hbwe; have ck1we : we.cell? ⟨b, off + k * 2 + 1, none⟩ = some (.int .i64 zz) := (bwe.cell (p := ⟨b, off + k * 2 + 1, none⟩) HBB.out).trans HC1.out; have ckxwe : we.cell? ⟨gx, 0, none⟩ = some (.slice A5 N c5) := HHwe.out.blk.cell 0; have HIe : Hid (IS we we.heap.size A7 S) := Reads.more (Reads.below HId.out hbwe) hbwe.size)
          | (go_at_call 21; (with_reducible refine (CS.out we HSwe.out).mono ?_); rintro e wf ⟨A8, c8, rfl, hI8, hbwf⟩; have bwf := chain5 bwe hbwf; have HSwf : Hid (SetAt wf g l2) := HSwe.out.below hbwf HSwe.out.lt; have HHwf : Hid (Held wf lo gx N A5 c5 l2) := HHwe.out.below hbwf; have ck1wf : wf.cell? ⟨b, off + k * 2 + 1, none⟩ = some (.int .i64 zz) := (bwf.cell (p := ⟨b, off + k * 2 + 1, none⟩) HBB.out).trans HC1.out; have ckxwf : wf.cell? ⟨gx, 0, none⟩ = some (.slice A5 N c5) := HHwf.out.blk.cell 0; have HIf : Hid (IS wf wf.heap.size A7 S) := Reads.more (Reads.below HIe.out hbwf) hbwf.size; have HJf := Lib.hid hI8; clear hI8)
          | (go_at_call 20; (with_reducible refine (CI.out wf A8 A7 c8 c7 HJf.out HIf.out).mono ?_); rintro e wh ⟨rfl, hbwh⟩; have bwh := chain5 bwf hbwh; have HSwh : Hid (SetAt wh g l2) := HSwf.out.below hbwh HSwf.out.lt; have HHwh : Hid (Held wh lo gx N A5 c5 l2) := HHwf.out.below hbwh; have ck1wh : wh.cell? ⟨b, off + k * 2 + 1, none⟩ = some (.int .i64 zz) := (bwh.cell (p := ⟨b, off + k * 2 + 1, none⟩) HBB.out).trans HC1.out; have ckxwh : wh.cell? ⟨gx, 0, none⟩ = some (.slice A5 N c5) := HHwh.out.blk.cell 0))
        go_wp2
        refine ⟨⟨k + 1, l2, A5, c5, by omega, by go_num, HSwh, HHwh, bwh⟩, ?_⟩
        simp [intOf]; omega
    · have h0n : k = n := by omega
      have d0 : decide ((k : Int) < (n : Int)) = false := decide_eq_false (by omega)
      have d1 : decide (k < n) = false := decide_eq_false (by omega)
      have u2 : ¬ (k : Int) < (n : Int) := by omega
      clear h0n
      go_wp2_with (first
        | (go_at_call 8; (with_reducible refine (HAw.out _ (by assumption)).mono ?_); rintro e w7 ⟨rfl, hb7⟩))
      go_ret
      exact ⟨rfl, chain5 hb hb7⟩

end Go.Proofs.YtppjeakgabakeaaDoor
