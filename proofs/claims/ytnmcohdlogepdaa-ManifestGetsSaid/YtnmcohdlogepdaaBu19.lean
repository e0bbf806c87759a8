/- Lemmas under the proofs of this place: ManPParts, ManRPut. No statement is proved here. -/
import Derived.Test.YtnmcohdlogepdaaBu17
import Derived.Test.YtnmcohdlogepdaaBu18
import Derived.Test.YtnmcohdlogepdaaBu14
import Derived.Test.YtnmcohdlogepdaaBu10
import Derived.Lib.SmallJoins
import Derived.Deep.RegionHeld3
section
set_option linter.unusedVariables false
set_option linter.unusedSimpArgs false
namespace Go.Proofs.Ytnmcohdlogepdaa
open Go.RowKit
theorem ptl_up {w w' : World} {A : Option Addr} {l : List Pt} (h : PtL w w.heap.size A l) (hb : Below w.heap.size w w') : PtL w' w'.heap.size A l := fun h0 => by
  obtain ⟨b, off, e, hlt, hc⟩ := h h0
  refine ⟨b, off, e, Nat.lt_of_lt_of_le hlt hb.size, fun i hi => ?_⟩
  obtain ⟨k0, k1, k2⟩ := hc i hi
  exact ⟨(hb.cell (p := ⟨b, off + i * 3, none⟩) hlt).trans k0, (hb.cell (p := ⟨b, off + i * 3 + 1, none⟩) hlt).trans k1, (hb.cell (p := ⟨b, off + i * 3 + 2, none⟩) hlt).trans k2⟩
theorem below_undrew {B : Nat} {w w' : World} (h : Below B w.drew w') : Below B w w' := ⟨h.os, h.tape, h.output, h.size, h.block⟩
set_option maxRecDepth 100000 in
set_option maxHeartbeats 4000000 in
theorem mparts_own (m : Mf) (A : Option Addr) (c : Nat) (w : World) (h : MfAt w m A c) : Calls Try.prog 10 #[mfV m A c] w fun e w' => ∃ B d k, e = .returned (.slice B k d) ∧ Hid (k = m.parts.length) ∧ Hid (PtN w' w.heap.size B m.parts d) ∧ Below w.heap.size w w' := by
  obtain ⟨f, hf⟩ : ∃ n, n = m.snap.f := ⟨_, rfl⟩
  obtain ⟨s, hs⟩ : ∃ n, n = m.snap.s := ⟨_, rfl⟩
  obtain ⟨o, ho⟩ : ∃ n, n = m.snap.o := ⟨_, rfl⟩
  obtain ⟨n, hn⟩ : ∃ n, n = m.segs.length := ⟨_, rfl⟩
  have hn1 : n ≤ 1000 := by rw [hn]; exact h.few
  have HS : Hid (∀ W, Calls Try.prog 30 #[.agg #[.slice A n c, .int .i64 f, .int .i64 s, .int .i64 o]] W fun e w' => ∃ B k d, e = .returned (.slice B k d) ∧ Hid (k = m.snaps.length ∧ PtL w' w'.heap.size B m.snaps) ∧ Below W.heap.size W w') := fun W => by
    have := msnaps_any m A c W
    unfold mfV at this
    rw [← hn, ← hf, ← hs, ← ho] at this
    refine this.mono fun e w' hh => ?_
    obtain ⟨B, d, he, hp, hb, _⟩ := hh
    exact ⟨B, _, d, he, ⟨rfl, hp.out⟩, hb⟩
  have HB : Hid (Below w.heap.size w (w.alloc (.cells #[.slice A n c, .int .i64 f, .int .i64 s, .int .i64 o] 29))) := (Below.refl _ _).alloc (Nat.le_refl _) _
  have HK : Hid (∀ W, Below (w.alloc (.cells #[.slice A n c, .int .i64 f, .int .i64 s, .int .i64 o] 29)).heap.size (w.alloc (.cells #[.slice A n c, .int .i64 f, .int .i64 s, .int .i64 o] 29)) W → W.cell? ⟨w.heap.size, 0, none⟩ = some (.slice A n c) ∧ W.cell? ⟨w.heap.size, 1, none⟩ = some (.int .i64 f) ∧ W.cell? ⟨w.heap.size, 2, none⟩ = some (.int .i64 s) ∧ W.cell? ⟨w.heap.size, 3, none⟩ = some (.int .i64 o)) := fun W hb => man_at w W A n c f s o hb
  have HA := Lib.hid (h.up HB.out)
  have a29 := fun w' => Try.manAgg w'
  have s29 := fun w' => Try.manSize w'
  unfold mfV
  rw [← hn, ← hf, ← hs, ← ho]
  have Hn := Lib.hid hn
  clear h hn hf hs ho
  go_enter Try.func10, Try.ntmps10
  go_upto_region 1 with (fail)
  obtain ⟨w1, hw1⟩ : ∃ w1, w1 = w.alloc (.cells #[.slice A n c, .int .i64 f, .int .i64 s, .int .i64 o] 29) := ⟨_, rfl⟩
  rw [← hw1] at HB HK HA
  rw [← hw1]
  obtain ⟨ga, hga⟩ : ∃ g, g = w.heap.size := ⟨_, rfl⟩
  rw [← hga] at HK
  rw [← hga]
  clear hw1 hga
  have b0 : Below w1.heap.size w1 w1.drew := (Below.refl _ _).drew
  have HC : Hid (∀ W B k d, k = m.snaps.length → PtL W W.heap.size B m.snaps → Below w1.heap.size w1 W → Calls Try.prog 19 #[.slice (some ⟨W.heap.size, 0, none⟩) 2 2] (W.alloc (.cells #[.slice A n c, .slice B k d] 25)) fun e w' => ∃ B d k, e = .returned (.slice B k d) ∧ Hid (k = m.parts.length) ∧ Hid (PtN w' w.heap.size B m.parts d) ∧ Below w1.heap.size w1 w') := fun W B k d hk hp hb => by
    have hb1 : Below w1.heap.size w1 (W.alloc (.cells #[.slice A n c, .slice B k d] 25)) := hb.alloc hb.size _
    have h2 := two_new W A B n k c d 25
    refine (pconcat_any m.segs m.snaps n k A B c d W.heap.size 0 _ Hn.out hk (by omega) (by have := m.snaps_len; omega) (by simp) h2.1 h2.2 (pt_reads Hn.out (HA.out.up hb1).segs) (pt_reads hk (ptl_up hp ((Below.refl _ _).alloc (Nat.le_refl _) _)))).mono fun e w' hh => ?_
    obtain ⟨A', c', k', he, hk', ho, hb'⟩ := hh
    have e1 : k' = m.parts.length := by rw [hk', Hn.out, hk, m.parts_eq, List.length_append]
    refine ⟨A', c', k', he, e1, ?_, chainM hb1 hb'⟩
    show World.ownsRow _ _ _ _ _ _ _
    rw [← e1, m.parts_eq]
    exact Joins.ownsRow_le ho (chainM HB.out hb1).size
  go_region_held3 (fun w' => w'.cell? ⟨ga, 0, none⟩ = some (.slice A n c) ∧ w'.cell? ⟨ga, 1, none⟩ = some (.int .i64 f) ∧ w'.cell? ⟨ga, 2, none⟩ = some (.int .i64 s) ∧ w'.cell? ⟨ga, 3, none⟩ = some (.int .i64 o))
    (first | exact HK.out _ b0 | exact HK.out _ b2u | exact HK.out _ (b2u.alloc b2u.size _) | exact HK.out _ b3)
    (first
      | (go_at_call 19; have hx := Lib.hid (HC.out _ _ _ d2 H2.out.1 H2.out.2 b2u); (with_reducible refine hx.out.mono ?_); rintro e w3 ⟨B3, d3, k3, rfl, H3, H4, b3⟩)
      | (go_at_call 30; (with_reducible refine (HS.out _).mono ?_); rintro e w2 ⟨B2, k2, d2, rfl, H2, b2⟩; have b2u : Below w1.heap.size w1 w2 := below_undrew b2))
  go_wp2
  go_ret
  exact ⟨B3, d3, k3, rfl, H3, H4, chainM HB.out b3⟩
theorem mparts_any (m : Mf) (A : Option Addr) (c : Nat) (w : World) (h : MfAt w m A c) : Calls Try.prog 10 #[mfV m A c] w fun e w' => ∃ B d, e = .returned (.slice B m.parts.length d) ∧ Hid (PtL w' w'.heap.size B m.parts) ∧ Below w.heap.size w w' := by
  refine (mparts_own m A c w h).mono fun e w' hh => ?_
  obtain ⟨B, d, k, rfl, hk, hp, hb⟩ := hh
  obtain rfl := hk.out
  exact ⟨B, d, rfl, hp.out.ptl, hb⟩
end Go.Proofs.Ytnmcohdlogepdaa
end
section
set_option linter.unusedVariables false
namespace Go.Proofs.Ytnmcohdlogepdaa
open Go.RowKit
theorem onesL_take_succ (l : List Pt) (i : Nat) (hi : i < l.length) : onesL (l.take (i + 1)) = onesL (l.take i) ++ l[i].one := by
  rw [List.take_succ_eq_append_getElem hi, onesL_append]
  simp [onesL]
set_option maxRecDepth 100000 in
set_option maxHeartbeats 4000000 in
theorem rmput_any (m : Mf) (A : Option Addr) (c : Nat) (w : World) (h : MfAt w m A c) : Calls Try.prog 27 #[mfV m A c] w (GivesBy (Mf.put m) w) := by
  obtain ⟨i0, hi0, hz0, hz1, hz2⟩ := info_parts Try.info5
  have hby : i0.bytes = 1 := hz2
  have g0 := fun w' => Try.manAgg w'
  have t0 := fun w' => Try.manSize w'
  have z0 := fun w' => Try.partBuild0 w'
  have HC := Lib.hid (fun W (hb : Below w.heap.size w W) => rmcheck_any m A c W (h.up hb))
  unfold mfV at HC
  obtain ⟨n, hn⟩ : ∃ n, n = m.segs.length := ⟨_, rfl⟩
  obtain ⟨f, hf⟩ : ∃ x, x = m.snap.f := ⟨_, rfl⟩
  obtain ⟨s, hs⟩ : ∃ x, x = m.snap.s := ⟨_, rfl⟩
  obtain ⟨o, ho⟩ : ∃ x, x = m.snap.o := ⟨_, rfl⟩
  unfold mfV
  rw [← hn, ← hf, ← hs, ← ho] at HC ⊢
  have HMW := Lib.hid (man_at w)
  have HF : Hid (f = m.snap.f ∧ s = m.snap.s ∧ o = m.snap.o) := ⟨hf, hs, ho⟩
  clear hf hs ho
  by_cases hk : m.check = 0
  · rw [hk] at HC
    have HSeg := Lib.hid (fun i (hi : i < m.segs.length) => seg_cells h.segs i hi)
    have hok := Mf.check_ok hk
    have hn8 : n ≤ 8 := by rw [hn]; exact hok.1
    have HOne : Hid (∀ (i : Nat) (hi : i < m.segs.length) W, Calls Try.prog 48 #[.agg #[.int .i64 m.segs[i].f, .int .i64 m.segs[i].s, .int .i64 m.segs[i].o]] W (GivesOne m.segs[i].one W)) := fun i hi W => rone_any _ W (hok.2.1 _ (Mf.segs_parts (List.getElem_mem hi)))
    have HLen : Hid (∀ i, i ≤ n → (onesL (m.segs.take i)).length ≤ 11 * i) := fun i hi => by
      have := onesL_len (m.segs.take i) fun p hp => hok.2.1 _ (Mf.segs_parts (List.mem_of_mem_take hp))
      rw [List.length_take] at this
      omega
    have HSeal : Hid (∀ (L : List UInt8) (N : Nat) (B : Option Addr) (d : Nat) (W : World), N = L.length → RB W W.heap.size B L → L.length ≤ 1000 → Calls Try.prog 5 #[.slice B N d] W (GivesOne (sealL L) W)) := fun L N B d W hN hr hl => by rw [hN]; exact refSeal_any L B d W.heap.size W hr (by omega)
    have HPut : Hid (Mf.put m = (sealL m.own, 0)) := by show _ = _; unfold Mf.put; rw [if_pos hk]
    have HN := Lib.hid hn
    clear h hn hok
    go_enter Try.func27, Try.ntmps27
    go_wp2_with (go_at_call 47; (with_reducible refine (HC.out _ ((Below.refl _ _).alloc (Nat.le_refl _) _)).mono ?_); rintro e w1 ⟨rfl, hb1⟩; obtain ⟨q0, q1, q2, q3⟩ := HMW.out w1 A n c f s o hb1)
    have hH := man_head n w1 hn8
    obtain ⟨w2, hw2⟩ : ∃ w2, w2 = w1.alloc (.cells #[.int .u8 3, .int .u8 109, .int .u8 97, .int .u8 110, .int .u8 (n : Int)] 5) := ⟨_, rfl⟩
    have hb2 : Below w1.heap.size w1 w2 := by rw [hw2]; exact (Below.refl _ _).alloc (Nat.le_refl _) _
    rw [← hw2] at hH ⊢
    have HH := Lib.hid hH
    have HB2 := Lib.hid hb2
    have HB1 := Lib.hid hb1
    clear hH hb2 hb1 hw2 HC q0 q1 q2 q3
    go_loopw [5, 6] (fun v i wr => ∃ (k q : Nat) (A : Option Addr) (c : Nat), k ≤ n ∧ q ≤ 5 + 11 * k ∧ v = .slice A q c ∧ i = .int .i64 (k : Int) ∧ Hid (q = (manHead n ++ onesL (m.segs.take k)).length) ∧ Hid (wr.ownsRow w1.heap.size 5 1 (.slice A q c) q (cells (manHead n ++ onesL (m.segs.take k))) ∧ Below w1.heap.size w1 wr)) (fun _ i _ => n - (intOf i).toNat)
    case atStart => exact ⟨0, 5, _, 5, by omega, by omega, rfl, rfl, rfl, HH.out, HB2.out⟩
    case round =>
      obtain ⟨k, q, A2, c2, hk2, hq, rfl, rfl, HQ, HW⟩ := hrel
      have hb := HB1.out.trans (HW.out.2.mono HB1.out.size)
      obtain ⟨q0, q1, q2, q3⟩ := HMW.out wr A n c f s o hb
      have HB := Lib.hid hb
      clear hb
      by_cases hlt : k < n
      · have d0 : decide ((k : Int) < (n : Int)) = true := decide_eq_true (by omega)
        have d1 : decide (k < n) = true := decide_eq_true hlt
        have hks : k < m.segs.length := by have := HN.out; omega
        obtain ⟨b, off, rfl, hcs⟩ := HSeg.out k hks
        obtain ⟨c0, c1, c2'⟩ := hcs wr (chainM ((Below.refl _ _).alloc (Nat.le_refl _) _) HB.out)
        have HO1 := Lib.hid (HOne.out k hks)
        have HL := Lib.hid (onesL_take_succ m.segs k hks)
        have hl11 : m.segs[k].one.length ≤ 11 := by
          have := HLen.out (k + 1) (by omega)
          rw [HL.out, List.length_append] at this
          exact Pt.one_len ((Mf.check_ok hk).2.1 _ (Mf.segs_parts (List.getElem_mem hks)))
        generalize m.segs[k].f = x at c0 HO1
        generalize m.segs[k].s = y at c1 HO1
        generalize m.segs[k].o = z at c2' HO1
        generalize m.segs[k].one = L at HO1 HL hl11
        obtain ⟨ml, hml⟩ : ∃ x, x = L.length := ⟨_, rfl⟩
        have HM := Lib.hid hml
        have hm11 : ml ≤ 11 := by omega
        clear hcs hl11 hml
        go_wp2_with (first
          | (go_at_call 48; (with_reducible refine (HO1.out _).mono ?_); rintro e w3 ⟨A3, c3, rfl, ho3, hb3⟩; have r3 := own_rb ho3; have o3 := own_kept HW.out.1 hb3; have b3 := HW.out.2.trans (hb3.mono HW.out.2.size); rw [← HM.out])
          | (at_builtin; refine append_rb rfl (.tmp 24) (.tmp 30) rfl rfl o3 b3 (Nat.le_refl _) rfl r3 HM.out (by omega) rfl ?_; intro A4 c4 w4 o4 b4))
        go_roundw
        case rel => exact ⟨k + 1, q + ml, A4, c4, by omega, by omega, rfl, by go_num, by show _ = _; rw [HL.out, ← List.append_assoc, List.length_append, ← HQ.out, HM.out], by rw [HL.out, ← List.append_assoc]; exact o4, b4⟩
        case measure => simp [intOf]; omega
      · have hkn : k = n := by omega
        have hmk : m.segs.take k = m.segs := List.take_of_length_le (by have := HN.out; omega)
        rw [hmk] at HQ HW
        have d0 : decide ((k : Int) < (n : Int)) = false := decide_eq_false (by omega)
        have d1 : decide (k < n) = false := decide_eq_false hlt
        have hq8 : q ≤ 100 := by omega
        have HB3 := Lib.hid (chainM ((Below.refl _ _).alloc (Nat.le_refl _) _) HB.out)
        by_cases hz : f = 0 ∧ s = 0 ∧ o = 0
        · have hE := fun W => Try.partEqZ f s o true W (decide_eq_true hz)
          have HT : Hid (m.own = (manHead n ++ onesL m.segs) ++ [0]) := by
            show _ = _
            rw [Mf.own_head, ← HN.out, List.append_assoc]
            congr 2
            unfold Mf.tail
            rw [if_pos]
            obtain ⟨e1, e2, e3⟩ := HF.out
            rw [e1, e2, e3] at hz
            show m.snap = ⟨0, 0, 0⟩
            obtain ⟨h1, h2, h3⟩ := hz
            cases hm : m.snap with | mk a b c => rw [hm] at h1 h2 h3; simp_all
          have hO : wr.ownsRow w1.heap.size 5 1 (.slice A2 q c2) (manHead n ++ onesL m.segs).length (cells (manHead n ++ onesL m.segs)) := by rw [← HQ.out]; exact HW.out.1
          have hl : (manHead n ++ onesL m.segs).length + 1 ≤ 1000 := by rw [← HQ.out]; omega
          generalize manHead n ++ onesL m.segs = P at hO hl HT HW HQ
          clear hz hlt hkn hmk
          go_wp2_with (first
            | (at_builtin; refine append_byte rfl (.tmp 36) (.tmp 37) rfl (0 : UInt8) rfl hO HW.out.2 (Nat.le_refl _) rfl rfl (by omega) ?_; intro v4 w4 o4 b4; obtain ⟨A4, c4, rfl⟩ := own_form o4; have r4 := own_rb (L := P ++ [0]) o4)
            | (go_at_call 5; (with_reducible refine (HSeal.out _ _ _ _ _ (by simp) r4 (by rw [List.length_append]; simpa using hl)).mono ?_); rintro e w5 ⟨A5, c5, rfl, ho5, hb5⟩))
          go_ret2
          rw [HPut.out, HT.out]
          have hbw : Below w.heap.size w w4 := (chainM ((Below.refl _ _).alloc (Nat.le_refl _) _) HB1.out).trans (b4.mono (by have := HB1.out.size; simp at this; omega))
          exact ⟨A5, c5, rfl, own_rb ho5, chainM hbw hb5⟩
        · have hE := fun W => Try.partEqZ f s o false W (decide_eq_false hz)
          have hne : m.snap ≠ Pt.z := fun e => hz (by
            obtain ⟨e1, e2, e3⟩ := HF.out
            rw [e1, e2, e3, e]
            exact ⟨rfl, rfl, rfl⟩)
          have hok := (Mf.check_ok hk).2.1 _ (Mf.snap_parts hne)
          have HT : Hid (m.own = (manHead n ++ onesL m.segs) ++ 1 :: m.snap.one) := by
            show _ = _
            rw [Mf.own_head, ← HN.out]
            unfold Mf.tail
            rw [if_neg hne]
            simp
          have HO1 : Hid (∀ W, Calls Try.prog 48 #[.agg #[.int .i64 f, .int .i64 s, .int .i64 o]] W (GivesOne m.snap.one W)) := fun W => by
            obtain ⟨e1, e2, e3⟩ := HF.out
            rw [e1, e2, e3]
            exact rone_any _ W hok
          have hl11 := Pt.one_len hok
          generalize m.snap.one = L at HT HO1 hl11
          obtain ⟨ml, hml⟩ : ∃ x, x = L.length := ⟨_, rfl⟩
          have HM := Lib.hid hml
          have hm11 : ml ≤ 11 := by omega
          have hO : wr.ownsRow w1.heap.size 5 1 (.slice A2 q c2) q (cells (manHead n ++ onesL m.segs)) := HW.out.1
          generalize manHead n ++ onesL m.segs = P at hO HT HW HQ
          have HS : Hid (∀ W, Below w1.heap.size w1 W → W.rangeAt w.heap.size 1 [.int .i64 f, .int .i64 s, .int .i64 o]) := fun W hb => by
            have hb' := HB1.out.trans (hb.mono HB1.out.size)
            obtain ⟨q0, q1, q2, q3⟩ := HMW.out W A n c f s o hb'
            intro j v hj
            match j with
            | 0 => simp at hj; rw [← hj]; exact q1
            | 1 => simp at hj; rw [← hj]; exact q2
            | 2 => simp at hj; rw [← hj]; exact q3
            | j + 3 => simp at hj
          have HO := Lib.hid hO
          clear hz hlt hkn hmk hO hne hok hl11 hml HOne HSeg HLen
          go_wp2
          have b0 : Below w1.heap.size w1 wr.drew := HW.out.2.drew
          have s0 := HS.out _ b0
          refine region_T (fun W => W.rangeAt w.heap.size 1 [.int .i64 f, .int .i64 s, .int .i64 o]) (fun j => decide (8 ≤ j)) (by kernel_rfl) ?_
          refine any_asT rfl (listed' := #[false, false, false, false, false, false, false, false, false, false]) (by kernel_rfl) ?_
          refine take_d (i := 0) (.slice A2 q c2) 40 rfl (by kernel_rfl) (by kernel_rfl) (by kernel_rfl) (by kernel_rfl) rfl (by kernel_rfl) (by kernel_rfl) (fun W hW => by kernel_rfl) s0 (fun _ _ _ h => h) ?_
          simp only [Act.put, List.setIfInBounds_toArray, List.set_cons_zero, List.set_cons_succ]
          refine take_d (i := 3) (.pointer (some ⟨w.heap.size, 1, none⟩)) 43 rfl (by kernel_rfl) (by kernel_rfl) (by kernel_rfl) (by kernel_rfl) rfl (by kernel_rfl) (by kernel_rfl) (fun W hW => by kernel_rfl) s0 (fun _ _ _ h => h) ?_
          simp only [Act.put, List.setIfInBounds_toArray, List.set_cons_zero, List.set_cons_succ]
          refine take_d (i := 4) (.agg #[.int .i64 f, .int .i64 s, .int .i64 o]) 44 rfl (by kernel_rfl) (by kernel_rfl) (by kernel_rfl) (by kernel_rfl) rfl (by kernel_rfl) (by kernel_rfl) (fun W hW => load_run 27 (.tmp 43) w.heap.size 1 [.int .i64 f, .int .i64 s, .int .i64 o] _ (by kernel_rfl) (by kernel_rfl) hW Try.underlying27 rfl (by kernel_rfl) _ rfl) s0 (fun _ _ _ h => h) ?_
          simp only [Act.put, List.setIfInBounds_toArray, List.set_cons_zero, List.set_cons_succ]
          obtain ⟨Wa, hWa⟩ : ∃ Wa, Wa = wr.drew.alloc (.cells #[.int .u8 1] 5) := ⟨_, rfl⟩
          have ba : Below w1.heap.size w1 Wa := by rw [hWa]; exact b0.alloc b0.size _
          have hR : RB Wa Wa.heap.size (some ⟨wr.heap.size, 0, none⟩) [1] := by rw [hWa]; exact own_rb (own_made wr.drew [1] (by decide))
          have hOa : Wa.ownsRow w1.heap.size 5 1 (.slice A2 q c2) q (cells P) := by rw [hWa]; exact World.ownsRow.alloc (World.ownsRow.drew HO.out) _
          refine any_comes (i := 1) (by kernel_rfl) (op_value (.slice (some ⟨wr.heap.size, 0, none⟩) 1 1) rfl (by kernel_rfl) (w' := Wa) (by rw [hWa]; kernel_rfl) rfl ⟨HS.out _ ba, ?_⟩)
          simp only [Act.put, List.setIfInBounds_toArray, List.set_cons_zero, List.set_cons_succ]
          refine any_comes (i := 2) (by kernel_rfl) (op_append rfl (by kernel_rfl) (.tmp 40) (.tmp 41) 22 rfl w1.heap.size 5 i0 _ 1 1 Try.underlying22 hi0 hz0 hz1 hz2 rfl (by omega) (.slice A2 q c2) q (cells P) (by kernel_rfl) hOa Wa.heap.size (some ⟨wr.heap.size, 0, none⟩) 1 1 (cells [1]) (by kernel_rfl) hR (cells_one _) (by unfold maxLen; omega) (by omega) ba.size ?_)
          intro v5 w5 ho5 hg5 hat5
          have b5 : Below w1.heap.size w1 w5 := ba.grown hg5 ba.size (fun j hj => (hOa.lt j hj).1)
          rw [← cells_append] at ho5
          obtain ⟨q5, hq5⟩ : ∃ q5, q5 = q + 1 := ⟨_, rfl⟩
          rw [← hq5] at ho5
          have HQ5 := Lib.hid hq5
          have hq58 : q5 ≤ 101 := by omega
          have hl7 : q5 + ml = (P ++ 1 :: L).length := by
            have h2 := HQ.out
            have h3 := HM.out
            rw [List.length_append, List.length_cons]
            omega
          have HL7 := Lib.hid hl7
          have HA7 : Hid (P ++ [1] ++ L = P ++ 1 :: L) := by show _ = _; simp
          have H1k : Hid ((P ++ 1 :: L).length ≤ 1000) := by show _ ≤ _; rw [← hl7]; omega
          clear hq5 hl7
          obtain ⟨A5, c5, hv5⟩ := own_form ho5
          subst hv5
          refine ⟨HS.out _ b5, ?_⟩
          simp only [Act.put, List.setIfInBounds_toArray, List.set_cons_zero, List.set_cons_succ]
          refine any_comes (i := 5) (by kernel_rfl) (op_enter 48 #[.agg #[.int .i64 f, .int .i64 s, .int .i64 o]] (some 45) rfl (by kernel_rfl) (by kernel_rfl) (by kernel_rfl) ((HO1.out _).mono ?_))
          rintro e w6 ⟨A6, c6, rfl, ho6, hb6⟩
          have r6 := own_rb ho6
          have o6 := own_kept ho5 hb6
          have b6 := b5.trans (hb6.mono b5.size)
          rw [← HM.out]
          refine ⟨_, rfl, HS.out _ b6, ?_⟩
          simp only [Act.put, List.setIfInBounds_toArray, List.set_cons_zero, List.set_cons_succ]
          refine any_comes (i := 6) (by kernel_rfl) (op_append rfl (by kernel_rfl) (.tmp 42) (.tmp 45) 22 rfl w1.heap.size 5 i0 _ 1 1 Try.underlying22 hi0 hz0 hz1 hz2 rfl (by omega) (.slice A5 q5 c5) q5 (cells (P ++ [1])) (by kernel_rfl) o6 w6.heap.size A6 ml c6 (cells L) (by kernel_rfl) (by rw [HM.out]; exact r6) (cells_one _) (by unfold maxLen; omega) (by omega) b6.size ?_)
          intro v7 w7 ho7 hg7 hat7
          have b7 : Below w1.heap.size w1 w7 := b6.grown hg7 b6.size (fun j hj => (o6.lt j hj).1)
          rw [← cells_append, HA7.out] at ho7
          obtain ⟨q7, hq7⟩ : ∃ q7, q7 = q5 + ml := ⟨_, rfl⟩
          rw [← hq7] at ho7
          obtain ⟨A7, c7, hv7⟩ := own_form ho7
          subst hv7
          have r7 := rb_of_own ho7 (by rw [hq7]; exact HL7.out)
          refine ⟨HS.out _ b7, ?_⟩
          simp only [Act.put, List.setIfInBounds_toArray, List.set_cons_zero, List.set_cons_succ]
          refine any_comes (i := 7) (by kernel_rfl) (op_enter 5 #[.slice A7 q7 c7] (some 47) rfl (by kernel_rfl) (by kernel_rfl) (by kernel_rfl) ((HSeal.out (P ++ 1 :: L) _ _ _ _ (by rw [hq7]; exact HL7.out) r7 H1k.out).mono ?_))
          rintro e w8 ⟨A8, c8, rfl, ho8, hb8⟩
          refine ⟨_, rfl, HS.out _ (b7.trans (hb8.mono b7.size)), ?_⟩
          simp only [Act.put, List.setIfInBounds_toArray, List.set_cons_zero, List.set_cons_succ]
          refine any_left (by kernel_rfl) ?_
          refine wpAny_tail 8 (by kernel_rfl) (by kernel_rfl) ?_
          simp only [List.drop_succ_cons, List.drop_zero]
          go_wp2
          go_ret2
          rw [HPut.out, HT.out]
          have hbw : Below w.heap.size w w7 := (chainM ((Below.refl _ _).alloc (Nat.le_refl _) _) HB1.out).trans (b7.mono (by have := HB1.out.size; simp at this; omega))
          exact ⟨A8, c8, rfl, own_rb ho8, chainM hbw hb8⟩
  · have HPut : Hid (Mf.put m = ([], m.check)) := by show _ = _; unfold Mf.put; rw [if_neg hk]
    obtain ⟨ck, hck⟩ : ∃ x, x = m.check := ⟨_, rfl⟩
    rw [← hck] at HC HPut hk
    have d0 : decide (ck ≠ 0) = true := decide_eq_true hk
    have d1 : (ck == 0) = false := by rw [beq_eq_false_iff_ne]; exact hk
    have d2 : (ck != 0) = true := by rw [bne_iff_ne]; exact hk
    clear hck h hn
    go_enter Try.func27, Try.ntmps27
    go_wp2_with (go_at_call 47; (with_reducible refine (HC.out _ ((Below.refl _ _).alloc (Nat.le_refl _) _)).mono ?_); rintro e w1 ⟨rfl, hb1⟩; obtain ⟨q0, q1, q2, q3⟩ := HMW.out w1 A n c f s o hb1)
    go_ret2
    rw [HPut.out]
    exact ⟨none, 0, rfl, RB.none_ _ _, chainM ((Below.refl _ _).alloc (Nat.le_refl _) _) hb1⟩
end Go.Proofs.Ytnmcohdlogepdaa
end
