/- Lemmas under the proofs of this place: ChainPWrite. No statement is proved here. -/
import Derived.Test.YtonnkibcnhjelaaGreatDoorBu24
import Derived.Test.YtonnkibcnhjelaaGreatDoorBu12
import Derived.Test.YtonnkibcnhjelaaGreatDoorBu27
import Derived.Test.YtonnkibcnhjelaaGreatDoorBu20
import Derived.Test.YtonnkibcnhjelaaGreatDoorBu26
set_option linter.unusedVariables false
namespace Go.Proofs.YtonnkibcnhjelaaGreatDoor
open Go.RowKit
def PChW (d : Dk) (o : Int) (ps : List Int) (t : List UInt8) (F : Nat → Prop) (g : Nat) (w : World) (e : Ending) (w' : World) : Prop :=
  ∃ F', e = .returned (.tuple #[ptV (chWrite d o ps t).2.1, .int .i64 (chWrite d o ps t).2.2]) ∧ PDisk w' g F' (chWrite d o ps t).1 ∧ Turns w w' F F'
theorem PChW.of {d : Dk} {o : Int} {ps : List Int} {t : List UInt8} {F : Nat → Prop} {g : Nat} {w w' : World} {e : Ending} (he : e = .returned (.tuple #[ptV (chWrite d o ps t).2.1, .int .i64 (chWrite d o ps t).2.2])) (h : PDeeds (chWrite d o ps t).1 F w w' g) : PChW d o ps t F g w e w' := by
  obtain ⟨F', h1, h2⟩ := h
  exact ⟨F', he, h1, h2⟩
set_option maxRecDepth 100000 in
set_option maxHeartbeats 8000000 in
theorem chwrite_any (o : Int) (ps : List Int) (t : List UInt8) (N n : Nat) (A T : Option Addr) (cA cT : Nat) {w : World} {g : Nat} {F : Nat → Prop} {d : Dk} (h : PDisk w g F d) (hl : d.load ≤ 90000) (hN : N = ps.length) (hn : n = t.length) (hs : n ≤ 100000) (hp : N ≤ 1000) (ho : InI o) (hps : ∀ p ∈ ps, InI p)
    (hA : RI w w.heap.size A ps) (hAF : 0 < N → ∀ ad, A = some ad → ¬ F ad.block) (hcA : N ≤ cA ∧ cA ≤ 9223372036854775807) (hr : RB w w.heap.size T t) (hTF : 0 < n → ∀ ad, T = some ad → ¬ F ad.block) (hc : n ≤ cT ∧ cT ≤ 9223372036854775807) :
    Calls Tryz.prog 10 #[.pointer (some ⟨g, 0, none⟩), .int .i64 o, .slice A N cA, .slice T n cT] w (PChW d o ps t F g w) := by
  obtain ⟨r, hrr⟩ : ∃ r, r = (cutC o ps t).1 := ⟨_, rfl⟩
  obtain ⟨z, hz⟩ : ∃ z, z = (cutC o ps t).2 := ⟨_, rfl⟩
  obtain ⟨r0, hr0⟩ : ∃ n, n = r.length := ⟨_, rfl⟩
  obtain ⟨WA, hWA⟩ : ∃ WA, WA = w.alloc (.cells #[.int .i64 0, .int .i64 0, .int .i64 0] 35) := ⟨_, rfl⟩
  have hbA : Below w.heap.size w WA := by rw [hWA]; exact (Below.refl _ _).alloc (Nat.le_refl _) _
  have hblk : Blk WA w.heap.size 35 #[.int .i64 0, .int .i64 0, .int .i64 0] := by rw [hWA]; exact Blk.new w _ _
  have hsA : w.heap.size < WA.heap.size := by rw [hWA]; simp
  have hriA : RI WA WA.heap.size A ps := fun h0 => by
    obtain ⟨b, off, e, hlt, hcc⟩ := (hA.below hbA) h0
    exact ⟨b, off, e, Nat.lt_of_lt_of_le hlt hbA.size, hcc⟩
  have HCut : Hid (Calls Tryz.prog 23 #[.int .i64 o, .slice A N cA, .slice T n cT] WA fun e w' => ∃ A' c', e = .returned (.tuple #[.slice A' r0 c', .int .i64 z]) ∧ Hid (CLN w' WA.heap.size A' r) ∧ Below WA.heap.size WA w') := by
    have h1 : Calls Tryz.prog 23 #[.int .i64 o, .slice A N cA, .slice T n cT] WA (GivesCLN (cutC o ps t) WA) := by rw [hN, hn]; exact ccut_lies o ps t A T cA cT WA (by omega) (by omega) ho hps hriA (by omega) (by omega) (rb_up7 hr hbA) (by omega) (by omega)
    refine h1.mono fun e w' hh => ?_
    obtain ⟨A', c', he, hs, hb⟩ := hh
    rw [← hz, ← hrr, ← hr0] at he
    rw [← hrr] at hs
    exact ⟨A', c', he, hs, hb⟩
  have HPl : Hid (∀ W, Below w.heap.size w W → Calls Tryz.prog 24 #[.slice A N cA, .int .i64 (d.safe.length : Int)] W fun e w' => e = .returned (.bool (placesOk ps d.safe.length)) ∧ Below W.heap.size W w') := fun W hb => pareblocks_any ps _ N A cA W hN (fun h0 => by
    obtain ⟨b, off, e, hlt, hcc⟩ := (hA.below hb) h0
    exact ⟨b, off, e, Nat.lt_of_lt_of_le hlt hb.size, hcc⟩) (by omega)
  have HD := Lib.hid h
  have HWA := Lib.hid hWA
  have HBA := Lib.hid hbA
  have HBlk := Lib.hid hblk
  have HSz : Hid (w.heap.size < WA.heap.size ∧ (∀ k, F k → k < w.heap.size)) := ⟨hsA, h.flt⟩
  have n0 := fun w' => Tryz.notTrue w'
  have n1 := fun w' => Tryz.notFalse w'
  have nb := fun w' => Tryz.partBuild0 w'
  have a24 := fun w' => Tryz.aggPart w'
  have s24 := fun w' => Tryz.sizePart w'
  have a25 := fun w' => Tryz.aggCell w'
  have s25 := fun w' => Tryz.sizeCell w'
  have HRs : Hid (∀ W, Blk W w.heap.size 35 #[.int .i64 0, .int .i64 0, .int .i64 0] → ResP W w.heap.size) := fun W h => ResP.of_blk h
  have HBk : Hid (∀ W, Below w.heap.size w W → Calls Tryz.prog 25 #[.pointer (some ⟨g, 0, none⟩)] W fun e w' => e = .returned (.int .i64 (d.safe.length : Int)) ∧ W = w') := fun W hb => blocks_any (h.below hb)
  have z0 := fun w' => Tryz.dIsNil g w'
  by_cases h0 : z = 0
  · subst h0
    obtain ⟨i1, i2, i3, i4, i5⟩ := cutC_inv hz.symm
    have hrN : r0 = N := by rw [hr0, hrr, i5]; simp [hN]
    subst hrN
    have HCo : Hid (∀ i, i < r0 → ∀ hi : i < r.length, r[i] = cutAt o ps t i ∧ (cutAt o ps t i).may = true) := fun i h1 hi => by
      have e : r[i] = cutAt o ps t i := by
        have : r[i]? = some (cutAt o ps t i) := by rw [hrr, i5, List.getElem?_map, List.getElem?_range (by omega)]; rfl
        rw [List.getElem?_eq_getElem hi] at this
        injection this
      have k := i4 i (by omega)
      unfold cutOk at k
      rw [Bool.and_eq_true] at k
      exact ⟨e, k.1⟩
    have HPc : Hid (∃ pb po, A = some ⟨pb, po, none⟩ ∧ pb < w.heap.size ∧ ¬ F pb ∧ ∀ k, k < r0 → w.cell? ⟨pb, po + k, none⟩ = some (.int .i64 (ps.getD k 0))) := by
      obtain ⟨b, off, e, hlt, hcc⟩ := hA (by omega)
      refine ⟨b, off, e, hlt, hAF (by omega) _ e, fun k hk => ?_⟩
      rw [hcc k (by omega), List.getD_eq_getElem?_getD, List.getElem?_eq_getElem (by omega)]; rfl
    have Hin : Hid (0 < r0 ∧ r0 = ps.length ∧ r0 = r.length ∧ n = t.length ∧ d.load ≤ 90000 ∧ (cutC o ps t).2 = 0) := ⟨by omega, hN, hr0, hn, hl, hz.symm⟩
    obtain ⟨sl, hsl⟩ : ∃ s, s = d.safe.length := ⟨_, rfl⟩
    rw [← hsl] at HPl HBk
    have Hsl := Lib.hid hsl
    obtain ⟨bp, hbp⟩ : ∃ b, b = placesOk ps sl := ⟨_, rfl⟩
    rw [← hbp] at HPl
    have Hbp := Lib.hid hbp
    have hr1000 : r0 ≤ 1000 := hp
    clear hrr hz hr0 hWA hbA hblk hsA hriA h hl hN hn hs hp hA hAF hcA ho hps hr hTF hc i1 i2 i3 i4 i5 hsl hbp
    go_enter Tryz.func10, Tryz.ntmps10
    go_upto_region 1 with (fail)
    rw [← HWA.out]
    rcases bp with _ | _
    · have HV : Hid (chWrite d o ps t = (d, .zero, 1)) := chWrite_place Hin.out.2.2.2.2.2 (by rw [← Hsl.out]; exact Hbp.out.symm)
      go_wp2_with (first
        | (go_at_call 23; (with_reducible refine HCut.out.mono ?_); rintro e w1 ⟨A1, c1, rfl, r1, hb1⟩; have b1 := chain7 HBA.out hb1)
        | (go_at_call 25; (with_reducible refine (HBk.out _ b1).mono ?_); rintro e w9 ⟨rfl, rfl⟩)
        | (go_at_call 24; (with_reducible refine (HPl.out _ b1).mono ?_); rintro e w2 ⟨rfl, hb2⟩; have k2 := chain7 hb1 hb2; have b2 := chain7 HBA.out k2; obtain ⟨⟨p0, p1, p2⟩, f0, f1, f2⟩ := HRs.out _ (Blk.below HBlk.out k2 HSz.out.1)))
      refine bodyPost_ret (v := .tuple #[.agg #[.int .i64 0, .int .i64 0, .int .i64 0], .int .i64 1]) (by simp [results, Tryz.results10, go_sem, p0, p1, p2]) rfl (PChW.of (by rw [HV.out]; rfl) (by rw [HV.out]; exact (PDeeds.start (HD.out.below b2)).store b2 HSz.out.2 (Nat.le_refl _) (Nat.lt_of_lt_of_le HSz.out.1 k2.size) (turns_three _ _ _ _ _)))
    · go_wp2_with (first
        | (go_at_call 23; (with_reducible refine HCut.out.mono ?_); rintro e w1 ⟨A1, c1, rfl, r1, hb1⟩; have b1 := chain7 HBA.out hb1)
        | (go_at_call 25; (with_reducible refine (HBk.out _ b1).mono ?_); rintro e w9 ⟨rfl, rfl⟩)
        | (go_at_call 24; (with_reducible refine (HPl.out _ b1).mono ?_); rintro e w2 ⟨rfl, hb2⟩; have k2 := chain7 hb1 hb2; have b2 := chain7 HBA.out k2))
      have HCL : Hid (CLN w2 WA.heap.size A1 r) := r1.out.below hb2
      have HB2 := Lib.hid b2
      have HK2 : Hid (Blk w2 w.heap.size 35 #[.int .i64 0, .int .i64 0, .int .i64 0]) := Blk.below HBlk.out k2 HSz.out.1
      have Hs2 : Hid (w.heap.size < w2.heap.size) := Nat.lt_of_lt_of_le HSz.out.1 k2.size
      obtain ⟨pb, po, rfl, hpl, hpG, hpc⟩ := HPc.out
      have HPq : Hid (pb < w.heap.size ∧ ¬ F pb ∧ ∀ k, k < r0 → w.cell? ⟨pb, po + k, none⟩ = some (.int .i64 (ps.getD k 0))) := ⟨hpl, hpG, hpc⟩
      clear r1 k2 b1 b2 hb1 hb2 hpl hpG hpc HPc
      go_loopw [41] (fun x wr => ∃ i : Nat, i ≤ r0 ∧ x = .int .i64 (i : Int) ∧ Hid ((wroteN d o ps t i).2 = 0) ∧ Hid (PDeeds (wroteN d o ps t i).1 F w2 wr g)) (fun x _ => r0 - (intOf x).toNat)
      case atStart => exact ⟨0, by omega, rfl, rfl, PDeeds.start (HD.out.below HB2.out)⟩
      case round =>
        obtain ⟨i, hi, rfl, HZ, HR⟩ := hrel
        by_cases hlt : i < r0
        · have d0 : decide ((i : Int) < (r0 : Int)) = true := decide_eq_true (by omega)
          have d1 : decide (i < r0) = true := decide_eq_true hlt
          have y7 : IntKind.i64.wrap ((i : Int) + 1) = (i : Int) + 1 := IntWalk.i64_in _ (by omega)
          have hi2 : i < r.length := by have := Hin.out.2.2.1; omega
          obtain ⟨cb, co, hA1, hclt, hcP, hcc⟩ := HCL.out (by omega)
          subst hA1
          obtain ⟨dA, dc, rd, hdP, e0, e1, e2, e3⟩ := hcc i hi2
          obtain ⟨hce, hcm⟩ := HCo.out i hlt hi2
          have hcG : ¬ F cb := fun hk => by have := HSz.out.2 cb hk; have := HSz.out.1; omega
          have hpb2 : pb < w2.heap.size := Nat.lt_trans HPq.out.1 Hs2.out
          obtain ⟨S, hS⟩ : ∃ S, S = (cutAt o ps t i).bytes := ⟨_, rfl⟩
          have hS256 : S.length = 256 := by rw [hS]; exact Ce.bytes_length _ ((Ce.may_iff _).1 hcm).2.2.2.2.2.2.2
          obtain ⟨ow, how⟩ : ∃ x, x = r[i].owner := ⟨_, rfl⟩
          obtain ⟨nu, hnu⟩ : ∃ x, x = r[i].number := ⟨_, rfl⟩
          obtain ⟨nx, hnx⟩ : ∃ x, x = r[i].next := ⟨_, rfl⟩
          obtain ⟨dl, hdl2⟩ : ∃ x, x = r[i].data.length := ⟨_, rfl⟩
          obtain ⟨pi, hpi⟩ : ∃ x, x = ps.getD i 0 := ⟨_, rfl⟩
          obtain ⟨z4, hz4⟩ : ∃ x, x = (wroteN d o ps t (i + 1)).2 := ⟨_, rfl⟩
          have rdr : RB wr wr.heap.size dA r[i].data := HR.out.rb rd (fun ad e hk => by have := hdP ad e; have := HSz.out.2 _ hk; have := HSz.out.1; omega)
          have HPut : Hid (∀ W, Below wr.heap.size wr W → Calls Tryz.prog 26 #[.agg #[.int .i64 ow, .int .i64 nu, .int .i64 nx, .slice dA dl dc]] W fun e w' => ∃ A c, e = .returned (.tuple #[.slice A 256 c, .int .i64 0]) ∧ Hid (RB w' w'.heap.size A S ∧ (∀ ad, A = some ad → wr.heap.size ≤ ad.block) ∧ 256 ≤ c ∧ c ≤ 9223372036854775807) ∧ Below wr.heap.size wr w') := fun W hW => by
            have := cput_any r[i] dA dc W (rb_up7 rdr hW) (by rw [hce]; have := ((Ce.may_iff _).1 hcm); omega)
            unfold ceV at this
            rw [← how, ← hnu, ← hnx, ← hdl2] at this
            refine this.mono fun e w' hh => ?_
            obtain ⟨A, c, he, ho, hb⟩ := hh.1 (by rw [hce]; exact hcm)
            rw [hce, ← hS, hS256] at he
            rw [hce, ← hS] at ho
            have hcap := own_cap7 ho
            refine ⟨A, c, he, ⟨own_rb ho, fun ad e => Nat.le_trans hW.size (own_ge ho ad e), ?_, hcap.2.2⟩, chain7 hW hb⟩
            have := hcap.2.1
            omega
          have HWr : Hid (∀ W A c, Below wr.heap.size wr W → (RB W W.heap.size A S ∧ (∀ ad, A = some ad → wr.heap.size ≤ ad.block) ∧ 256 ≤ c ∧ c ≤ 9223372036854775807) → Calls Tryz.prog 27 #[.pointer (some ⟨g, 0, none⟩), .int .i64 pi, .slice A 256 c] W fun e w' => e = .returned (.int .i64 z4) ∧ Hid (PDeeds (wroteN d o ps t (i + 1)).1 F w2 w' g)) := fun W A c hW hA => by
            have e9 := wroteN_succ (d := d) (o := o) (ps := ps) (t := t) (i := i) (by have := Hin.out.2.1; omega) HZ.out
            rw [← hpi, ← hS] at e9
            have hl9 := wroteN_load d o ps t i (by have := Hin.out.2.1; omega)
            have := pwrite_deeds HR.out hW pi (by have := Hin.out.2.2.2.2.1; omega) S A 256 c hS256.symm hA.1 hA.2.1 hA.2.2.1 hA.2.2.2
            rw [← e9, ← hz4] at this
            exact this
          have v0 : wr.cell? ⟨cb, co + i * 4, none⟩ = some (.int .i64 ow) := by rw [how]; exact (HR.out.cell (p := ⟨cb, co + i * 4, none⟩) hclt hcG).trans e0
          have v1 : wr.cell? ⟨cb, co + i * 4 + 1, none⟩ = some (.int .i64 nu) := by rw [hnu]; exact (HR.out.cell (p := ⟨cb, co + i * 4 + 1, none⟩) hclt hcG).trans e1
          have v2 : wr.cell? ⟨cb, co + i * 4 + 2, none⟩ = some (.int .i64 nx) := by rw [hnx]; exact (HR.out.cell (p := ⟨cb, co + i * 4 + 2, none⟩) hclt hcG).trans e2
          have v3 : wr.cell? ⟨cb, co + i * 4 + 3, none⟩ = some (.slice dA dl dc) := by rw [hdl2]; exact (HR.out.cell (p := ⟨cb, co + i * 4 + 3, none⟩) hclt hcG).trans e3
          have hpi2 : w2.cell? ⟨pb, po + i, none⟩ = some (.int .i64 pi) := by rw [hpi]; exact (HB2.out.cell (p := ⟨pb, po + i, none⟩) HPq.out.1).trans (HPq.out.2.2 i hlt)
          have hnr : ¬ F w.heap.size := fun hg => Nat.lt_irrefl _ (HSz.out.2 _ hg)
          have Hz4 := Lib.hid hz4
          clear hcc rd hdP e0 e1 e2 e3 hce hcm hcG hcP hclt how hnu hnx hdl2 hpi hS hS256 hz4
          by_cases h4z : z4 = 0
          · subst h4z
            go_wp2_with (first
              | (go_at_call 26; (with_reducible refine (HPut.out _ (by exact (Below.refl _ _).alloc (Nat.le_refl _) _)).mono ?_); rintro e w3 ⟨A3, c3, rfl, r3, hb3⟩; have u3 : w3.cell? ⟨pb, po + i, none⟩ = some (.int .i64 pi) := (by rw [hb3.cell (p := ⟨pb, po + i, none⟩) (Nat.lt_of_lt_of_le hpb2 HR.out.size), HR.out.cell (p := ⟨pb, po + i, none⟩) hpb2 HPq.out.2.1]; exact hpi2))
              | (go_at_call 27; (with_reducible refine (HWr.out _ _ _ hb3 r3.out).mono ?_); rintro e w4 ⟨rfl, h4⟩; obtain ⟨⟨p0, p1, p2⟩, f0, f1, f2⟩ := HRs.out _ (h4.out.blk HK2.out hnr)))
            go_roundw
            case rel => exact ⟨i + 1, by omega, by go_num, Hz4.out.symm, h4⟩
            case measure => simp [intOf]; omega
          · have HV : Hid (chWrite d o ps t = ((wroteN d o ps t (i + 1)).1, .zero, z4)) := by
              show _ = _
              rw [Hz4.out]
              exact chWrite_stop Hin.out.2.2.2.2.2 (by rw [← Hsl.out]; exact Hbp.out.symm) (by rw [← Hz4.out]; exact h4z)
            have q0 : (z4 == 0) = false := by simpa using h4z
            have q1 : (z4 != 0) = true := by simpa using h4z
            clear h4z
            go_wp2_with (first
              | (go_at_call 26; (with_reducible refine (HPut.out _ (by exact (Below.refl _ _).alloc (Nat.le_refl _) _)).mono ?_); rintro e w3 ⟨A3, c3, rfl, r3, hb3⟩; have u3 : w3.cell? ⟨pb, po + i, none⟩ = some (.int .i64 pi) := (by rw [hb3.cell (p := ⟨pb, po + i, none⟩) (Nat.lt_of_lt_of_le hpb2 HR.out.size), HR.out.cell (p := ⟨pb, po + i, none⟩) hpb2 HPq.out.2.1]; exact hpi2))
              | (go_at_call 27; (with_reducible refine (HWr.out _ _ _ hb3 r3.out).mono ?_); rintro e w4 ⟨rfl, h4⟩; obtain ⟨⟨p0, p1, p2⟩, f0, f1, f2⟩ := HRs.out _ (h4.out.blk HK2.out hnr)))
            refine bodyPost_ret (v := .tuple #[.agg #[.int .i64 0, .int .i64 0, .int .i64 0], .int .i64 z4]) (by simp [results, Tryz.results10, go_sem, p0, p1, p2]) rfl (PChW.of (by rw [HV.out]; rfl) (by rw [HV.out]; exact h4.out.store HB2.out HSz.out.2 (Nat.le_refl _) Hs2.out (turns_three _ _ _ _ _)))
        · have d0 : decide ((i : Int) < (r0 : Int)) = false := decide_eq_false (by omega)
          have d1 : decide (i < r0) = false := decide_eq_false hlt
          obtain rfl : i = r0 := by omega
          have hpb2 : pb < w2.heap.size := Nat.lt_trans HPq.out.1 Hs2.out
          obtain ⟨pi, hpi⟩ : ∃ x, x = ps.getD 0 0 := ⟨_, rfl⟩
          have hpi2 : w2.cell? ⟨pb, po + 0, none⟩ = some (.int .i64 pi) := by rw [hpi]; exact (HB2.out.cell (p := ⟨pb, po + 0, none⟩) HPq.out.1).trans (HPq.out.2.2 0 (by have := Hin.out.1; omega))
          have u3 : wr.cell? ⟨pb, po, none⟩ = some (.int .i64 pi) := by rw [HR.out.cell (p := ⟨pb, po, none⟩) hpb2 HPq.out.2.1]; exact hpi2
          have hnr : ¬ F w.heap.size := fun hg => Nat.lt_irrefl _ (HSz.out.2 _ hg)
          obtain ⟨⟨p0, p1, p2⟩, f0, f1, f2⟩ := HRs.out _ (HR.out.blk HK2.out hnr)
          have HV : Hid (chWrite d o ps t = ((wroteN d o ps t i).1, ⟨pi, n, o⟩, 0)) := by
            show _ = _
            have e1 := Hin.out.2.1
            have e2 := Hin.out.2.2.2.1
            rw [chWrite_all Hin.out.2.2.2.2.2 (by rw [← Hsl.out]; exact Hbp.out.symm) (by rw [← e1]; exact HZ.out), ← e1, hpi, e2]
          have nb3 := fun a b c w' => Tryz.partBuild3 a b c w'
          have hr0p : (0 : Int) < (i : Int) := by have := Hin.out.1; omega
          clear hpi hpi2 hlt
          go_wp2
          refine bodyPost_ret (v := .tuple #[.agg #[.int .i64 pi, .int .i64 (n : Int), .int .i64 o], .int .i64 0]) (by simp [results, Tryz.results10, go_sem, p0, p1, p2]) rfl (PChW.of (by rw [HV.out]; rfl) (by rw [HV.out]; exact HR.out.store HB2.out HSz.out.2 (Nat.le_refl _) Hs2.out (turns_three _ _ _ _ _)))
  · have HV : Hid (chWrite d o ps t = (d, .zero, z)) := by show _ = _; rw [hz]; exact chWrite_cut (by rw [← hz]; exact h0)
    have zz0 : (z == 0) = false := by simpa using h0
    have zz1 : (z != 0) = true := by simpa using h0
    clear hrr hz hr0 hWA hbA hblk hsA hriA h hl hN hn hs hp hA hAF hcA ho hps hr hTF hc h0
    go_enter Tryz.func10, Tryz.ntmps10
    go_upto_region 1 with (fail)
    rw [← HWA.out]
    go_wp2_with (first
      | (go_at_call 23; (with_reducible refine HCut.out.mono ?_); rintro e w1 ⟨A1, c1, rfl, r1, hb1⟩; obtain ⟨⟨p0, p1, p2⟩, f0, f1, f2⟩ := HRs.out _ (Blk.below HBlk.out hb1 HSz.out.1)))
    refine bodyPost_ret (v := .tuple #[.agg #[.int .i64 0, .int .i64 0, .int .i64 0], .int .i64 z]) (by simp [results, Tryz.results10, go_sem, p0, p1, p2]) rfl (PChW.of (by rw [HV.out]; rfl) (by rw [HV.out]; exact (PDeeds.start (HD.out.below (chain7 HBA.out hb1))).store (chain7 HBA.out hb1) HSz.out.2 (Nat.le_refl _) (Nat.lt_of_lt_of_le HSz.out.1 hb1.size) (turns_three _ _ _ _ _)))
set_option maxRecDepth 100000 in
theorem chwrite_none (o : Int) (N n : Nat) (A T : Option Addr) (cA cT : Nat) (w : World) :
    Calls Tryz.prog 10 #[.pointer none, .int .i64 o, .slice A N cA, .slice T n cT] w fun e w' => e = .returned (.tuple #[ptV .zero, .int .i64 8]) ∧ Below w.heap.size w w' := by
  have z0 := fun w' => Tryz.dNilIs w'
  have nb := fun w' => Tryz.partBuild0 w'
  have a24 := fun w' => Tryz.aggPart w'
  have s24 := fun w' => Tryz.sizePart w'
  go_enter Tryz.func10, Tryz.ntmps10
  go_wp2
  refine bodyPost_ret (v := .tuple #[.agg #[.int .i64 0, .int .i64 0, .int .i64 0], .int .i64 8]) (by simp [results, Tryz.results10, go_sem]) rfl ⟨rfl, (Below.refl _ _).alloc (Nat.le_refl _) _⟩
end Go.Proofs.YtonnkibcnhjelaaGreatDoor
