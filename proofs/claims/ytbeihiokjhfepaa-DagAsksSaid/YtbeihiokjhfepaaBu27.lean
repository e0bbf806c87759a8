/- Lemmas under the proofs of this place: DagPAhead. No statement is proved here. -/
import Derived.Test.YtbeihiokjhfepaaBu25
import Derived.Test.YtbeihiokjhfepaaBu12
set_option linter.unusedSimpArgs false
set_option linter.unusedVariables false
set_option maxRecDepth 100000
set_option maxHeartbeats 16000000
namespace Go.Proofs.Ytbeihiokjhfepaa
open Go.RowKit
theorem only_drewR {g : Nat} {w w' : World} (h : Only w w' g) : Only w w'.drew g := ⟨h.os, h.tape, h.output, h.size, h.block⟩
theorem bidx_run {o : Oper} {a : Act} {W : World} (x y : Operand) (b off n c i : Nat) (ho : o.op = .indexAddr 68 x y) (hx : a.eval x = .slice (some ⟨b, off, none⟩) n c) (hy : a.eval y = .int .i64 (i : Int)) (hi : i < n) :
    (execOp a.eval o).run Try.prog W = .ok (.value (.pointer (some ⟨b, off + i, none⟩))) W := by
  have hu : (underlying 68).run Try.prog W = .ok (.slice 4) W := by kernel_rfl
  have hs : (sizeOf 4).run Try.prog W = .ok 1 W := by kernel_rfl
  unfold execOp
  simp [ho, hx, hy, Instr.indexAt, asIntOf, hu, hi, hs, add_none]
structure AheadV (W : World) (p n fl S D G M t : Nat) : Prop where
  s : W.cell? ⟨S, 0, none⟩ = some (.slice (some ⟨fl, 0, none⟩) n n)
  d : W.cell? ⟨D, 0, none⟩ = some (.pointer (some ⟨p, 0, none⟩))
  g : W.cell? ⟨G, 0, none⟩ = some (.int .i64 (t : Int))
  m : W.cell? ⟨M, 0, none⟩ = some (.func (.func 51) #[] #[.pointer (some ⟨S, 0, none⟩), .pointer (some ⟨D, 0, none⟩), .pointer (some ⟨G, 0, none⟩), .pointer (some ⟨M, 0, none⟩)])
theorem seek_any {w0 W1 : World} {p n c fl S D G M t : Nat} {g : Gr} {A : Option Addr} {mv : Value} (ok : GrOk g) (h : PV w0 p g A n c mv) (ht : t < g.length) (hpl : ∀ i, i < g.length → (g.getD i nd0).preds.length ≤ 5000) (hl : n ≤ 5000) (hb : Below w0.heap.size w0 W1) (hfl : w0.heap.size ≤ fl)
    (hV : ∀ W, Only W1 W fl → AheadV W p n fl S D G M t) :
    ∀ (N q : Nat), q < N → q < g.length → ∀ (W : World) (l : List Bool), Only W1 W fl → FlB W fl l → l.length = n → SeekPre g t q l →
      Calls Try.prog 51 #[.int .i64 (q : Int), .pointer (some ⟨S, 0, none⟩), .pointer (some ⟨D, 0, none⟩), .pointer (some ⟨G, 0, none⟩), .pointer (some ⟨M, 0, none⟩)] W fun e w' => ∃ b, e = .returned (.bool b) ∧ ∃ l', Hid (FlB w' fl l') ∧ Hid (SeekP g t q l l' b) ∧ Hid (Only W w' fl) := by
  intro N
  induction N with
  | zero => intro q hq; omega
  | succ N ih =>
    intro q hqN hqg W l hW hF hll hpre
    have hqn : q < n := by rw [h.len]; exact hqg
    obtain ⟨v1, v2, v3, v4⟩ := hV W hW
    have cf := hF.cell (k := q) (by omega)
    have u0 : (0 : Int) ≤ (q : Int) := by omega
    have u1 : (q : Int) < (n : Int) := by omega
    have cz := hF.frozen q
    have hS : FlB (W.setCell ⟨fl, q, none⟩ (.bool true)) fl (l.set q true) := hF.set_ q true
    have hO : Only W (W.setCell ⟨fl, q, none⟩ (.bool true)) fl := only_set W fl q _
    obtain ⟨W2, hW2⟩ : ∃ W2, W2 = W.setCell ⟨fl, q, none⟩ (.bool true) := ⟨_, rfl⟩
    rw [← hW2] at hS hO
    have HW2 := Lib.hid hW2
    have hO2 := only_trans hW hO
    have hB2 := below_only hb hO2 hfl hb.size
    obtain ⟨nb, noff, hA, hnb, hNA⟩ := h.at_ (by omega)
    subst hA
    have c0 := (hB2.cell (p := ⟨p, 0, none⟩) h.lt).trans h.c0
    obtain ⟨-, ⟨pA, pc, c1', hs⟩, -, -⟩ := hNA q hqg
    have c1 := (hB2.cell (p := ⟨nb, noff + q * 4 + 1, none⟩) hnb).trans c1'
    obtain ⟨y1, y2, y3, y4⟩ := hV W2 hO2
    have hm5 := hpl q hqg
    rw [← predI_length] at hm5
    obtain ⟨m, hm⟩ : ∃ m, m = (predI g q).length := ⟨_, rfl⟩
    rw [← hm] at c1 hm5
    have HS : Hid (0 < (predI g q).length → ∃ b off, pA = some ⟨b, off, none⟩ ∧ b ≠ fl ∧ b < W2.heap.size ∧ ∀ k, k < (predI g q).length → W2.cell? ⟨b, off + k, none⟩ = some (.int .i64 ((predI g q).getD k 0 : Nat))) := fun hh => by
      obtain ⟨b, off, e, hbl, hc⟩ := hs.at_ hh
      exact ⟨b, off, e, by omega, Nat.lt_of_lt_of_le hbl hB2.size, fun k hk => (hB2.cell (p := ⟨b, off + k, none⟩) hbl).trans (hc k hk)⟩
    have HDp : Hid (∀ V, Only W2 V fl → V.cell? ⟨p, 0, none⟩ = some (.slice (some ⟨nb, noff, none⟩) n c) ∧ ∀ i, i < n → V.cell? ⟨nb, noff + i * 4 + 3, none⟩ = some (.int .i64 (depI g i : Int))) := fun V hV2 => by
      have hB3 := below_only hB2 hV2 hfl hB2.size
      exact ⟨(hB3.cell (p := ⟨p, 0, none⟩) h.lt).trans h.c0, fun i hi => (hB3.cell (p := ⟨nb, noff + i * 4 + 3, none⟩) hnb).trans (hNA i (by rw [← h.len]; exact hi)).2.2.2⟩
    have HI0 : Hid (SeekI g t q 0 l (l.set q true)) := SeekI.start (by omega)
    have HM := Lib.hid hm
    have HFl := Lib.hid hS
    have HV : Hid (∀ V, Only W2 V fl → AheadV V p n fl S D G M t) := fun V hV2 => hV V (only_trans hO2 hV2)
    have HIH : Hid (∀ (k : Nat) (lk : List Bool) (V : World), k < m → SeekI g t q k l lk → Only W2 V fl → FlB V fl lk → Calls Try.prog 51 #[.int .i64 ((predI g q).getD k 0 : Nat), .pointer (some ⟨S, 0, none⟩), .pointer (some ⟨D, 0, none⟩), .pointer (some ⟨G, 0, none⟩), .pointer (some ⟨M, 0, none⟩)] V fun e w' => ∃ b, e = .returned (.bool b) ∧ ∃ l', Hid (FlB w' fl l') ∧ Hid (SeekP g t ((predI g q).getD k 0) lk l' b) ∧ Hid (Only V w' fl)) := fun k lk V hk hI hVO hFl => by
      have hmem := predI_at (g := g) (p := q) (k := k) (by omega)
      have hlt := predI_lt ok hqg _ hmem
      exact ih _ (by omega) (by omega) V lk (only_trans hO2 hVO) hFl (by rw [hI.len]; exact hll) (hI.pre hpre hlt)
    have HQl : Hid (∀ k, k < m → (predI g q).getD k 0 < n) := fun k hk => by
      have := predI_lt ok hqg _ (predI_at (g := g) (p := q) (k := k) (by omega))
      omega
    have HLl : Hid (∀ k lk, SeekI g t q k l lk → lk.length = n) := fun k lk hI => by rw [hI.len]; exact hll
    have HGo : Hid (∀ k lk, k < m → SeekI g t q k l lk → (predI g q).getD k 0 = t → SeekP g t q l lk true) := fun k lk hk hI e => hI.goal ok hqg (by omega) e
    have HSk : Hid (∀ k lk, k < m → SeekI g t q k l lk → (predI g q).getD k 0 ≠ t → (on lk ((predI g q).getD k 0) ∨ depI g ((predI g q).getD k 0) ≤ depI g t) → SeekI g t q (k + 1) l lk) := fun k lk hk hI e hs => hI.skip ok hqg ht hpre (by omega) e hs
    have HYe : Hid (∀ k lk l2, k < m → SeekI g t q k l lk → SeekP g t ((predI g q).getD k 0) lk l2 true → SeekP g t q l l2 true) := fun k lk l2 hk hI hP => hI.found ok hqg (by omega) hP
    have HDn : Hid (∀ lk, SeekI g t q m l lk → SeekP g t q l lk false) := fun lk hI => by rw [hm] at hI; exact hI.done ok hqg
    have HO := Lib.hid hO
    have HDl : Hid (∀ i, depI g i ≤ 5000) := fun i => by have := depth_le g i; have := h.len; show depI g i ≤ 5000; unfold depI; omega
    have HT : Hid (t < n) := by show t < n; rw [h.len]; exact ht
    clear hS hO hW2 hO2 hs hm hpre hll ih hV hpl h ok hW hb hF hNA hB2 c1' hnb ht
    rw [HW2.out] at c0 c1 y1 y2 y3 y4
    go_enter Try.func51, Try.ntmps51
    go_wp2
    go_step3
    go_wp2
    go_step3
    go_wp2
    rw [← HW2.out]
    clear c0 c1 y1 y2 y3 y4 v1 v2 v3 v4 cf cz
    go_loopw [7, 9, 22, 26, 30] (fun v v9 i v26 v30 wr => ∃ (k : Nat) (lk : List Bool), k ≤ m ∧ v = .bool false ∧ i = .int .i64 (k : Int) ∧ Hid (FlB wr fl lk) ∧ Hid (SeekI g t q k l lk) ∧ Hid (Only W2 wr fl)) (fun _ _ i _ _ _ => m - (intOf i).toNat)
    case atStart => exact ⟨0, _, Nat.zero_le _, rfl, rfl, HFl, HI0, only_refl _ _⟩
    case round =>
      obtain ⟨k, lk, hk, rfl, rfl, HFk, HIk, HOk⟩ := hrel
      by_cases hlt : k < m
      · obtain ⟨b, off, rfl, hbf, hbl, hc⟩ := HS.out (by have := HM.out; omega)
        have cx := hc k (by have := HM.out; omega)
        rw [← Only.cell HOk.out (p := ⟨b, off + k, none⟩) hbl hbf] at cx
        obtain ⟨v1, v2, v3, v4⟩ := HV.out _ HOk.out
        obtain ⟨c0, hcd⟩ := HDp.out _ HOk.out
        have hrn := HQl.out k hlt
        have HC := Lib.hid (HIH.out k lk wr.drew hlt HIk.out (only_drewR HOk.out) (show FlB wr.drew fl lk from HFk.out))
        have HGk := Lib.hid (HGo.out k lk hlt HIk.out)
        have HSk2 := Lib.hid (HSk.out k lk hlt HIk.out)
        have HYk := Lib.hid (fun l2 => HYe.out k lk l2 hlt HIk.out)
        have HMk := Lib.hid (fun l2 => SeekI.miss (l2 := l2) HIk.out)
        obtain ⟨r, hr⟩ : ∃ r, r = (predI g q).getD k 0 := ⟨_, rfl⟩
        rw [← hr] at HC cx HGk HSk2 HYk HMk hrn
        have u2 : (0 : Int) ≤ (k : Int) := by omega
        have u3 : (k : Int) < (m : Int) := by omega
        have u4 : (0 : Int) ≤ (r : Int) := by omega
        have u5 : (r : Int) < (n : Int) := by omega
        have u6 : (0 : Int) ≤ (t : Int) := by omega
        have u7 : (t : Int) < (n : Int) := by have := HT.out; omega
        have cfr := HFk.out.cell (k := r) (by have := HLl.out _ _ HIk.out; omega)
        have cd1 := hcd r hrn
        have cd2 := hcd t HT.out
        obtain ⟨dr, hdr⟩ : ∃ x, x = depI g r := ⟨_, rfl⟩
        obtain ⟨dt, hdt⟩ : ∃ x, x = depI g t := ⟨_, rfl⟩
        have hdl1 := HDl.out r
        have hdl2 := HDl.out t
        rw [← hdr] at cd1 hdl1 HSk2
        rw [← hdt] at cd2 hdl2 HSk2
        clear hr hc hbf hbl hcd hdr hdt
        by_cases hrt : r = t
        · have HP := Lib.hid (HGk.out hrt)
          have e0 : (((r : Nat) : Int) == ((t : Nat) : Int)) = true := by simp [hrt]
          have e1 : decide (((r : Nat) : Int) = ((t : Nat) : Int)) = true := decide_eq_true (by omega)
          clear hrt
          go_wp2
          (try rw [Exit.noGoto_ret])
          go_ret
          exact ⟨true, rfl, lk, HFk, HP, only_trans HO.out HOk.out⟩
        · have e0 : (((r : Nat) : Int) == ((t : Nat) : Int)) = false := by simp; omega
          have e1 : decide (((r : Nat) : Int) = ((t : Nat) : Int)) = false := decide_eq_false (by omega)
          obtain ⟨bs, hbs⟩ : ∃ b, b = lk.getD r false := ⟨_, rfl⟩
          rw [← hbs] at cfr
          have HOd : Hid (Only W2 wr.drew fl) := only_drewR HOk.out
          cases bs with
          | true =>
            have HI2 := Lib.hid (HSk2.out hrt (.inl hbs.symm))
            clear hbs hrt HSk2 HYk HMk HGk
            have cfz : wr.cell? ⟨fl, 0 + r, none⟩ = some (.bool true) := by rw [Nat.zero_add]; exact cfr
            go_upto_region 8 with (fail)
            have S0 : wr.drew.cell? ⟨S, 0, none⟩ = some (.slice (some ⟨fl, 0, none⟩) n n) ∧ wr.drew.cell? ⟨fl, 0 + r, none⟩ = some (.bool true) := ⟨v1, cfz⟩
            refine region_T (fun W => W.cell? ⟨S, 0, none⟩ = some (.slice (some ⟨fl, 0, none⟩) n n) ∧ W.cell? ⟨fl, 0 + r, none⟩ = some (.bool true)) (fun j => decide (23 ≤ j)) (by kernel_rfl) ?_
            refine any_asT rfl (listed' := #[false, false, false, false, false, false, false, false, false, false, false, false, false, false, false, false, false, false, false, false, false, false, false, false, false]) (by kernel_rfl) ?_
            refine take_c (i := 0) (.slice (some ⟨fl, 0, none⟩) n n) 31 rfl (by kernel_rfl) (by kernel_rfl) (by kernel_rfl) (by kernel_rfl) (by kernel_rfl) rfl (by kernel_rfl) (by kernel_rfl) (fun W hW => cell_run 68 (.tmp 1) ⟨S, 0, none⟩ (.slice (some ⟨fl, 0, none⟩) n n) _ (by kernel_rfl) (by kernel_rfl) hW.1 Try.underlying68 rfl (by kernel_rfl)) S0 (fun _ _ _ h => h) ?_
            simp only [Act.put, List.setIfInBounds_toArray, List.set_cons_zero, List.set_cons_succ]
            refine take_c (i := 1) (.int .i64 (r : Int)) 32 rfl (by kernel_rfl) (by kernel_rfl) (by kernel_rfl) (by kernel_rfl) (by kernel_rfl) rfl (by kernel_rfl) (by kernel_rfl) (fun W hW => by kernel_rfl) S0 (fun _ _ _ h => h) ?_
            simp only [Act.put, List.setIfInBounds_toArray, List.set_cons_zero, List.set_cons_succ]
            refine take_c (i := 2) (.pointer (some ⟨fl, 0 + r, none⟩)) 33 rfl (by kernel_rfl) (by kernel_rfl) (by kernel_rfl) (by kernel_rfl) (by kernel_rfl) rfl (by kernel_rfl) (by kernel_rfl) (fun W hW => bidx_run (.tmp 31) (.tmp 32) fl 0 n n r (by kernel_rfl) (by kernel_rfl) (by kernel_rfl) hrn) S0 (fun _ _ _ h => h) ?_
            simp only [Act.put, List.setIfInBounds_toArray, List.set_cons_zero, List.set_cons_succ]
            refine take_c (i := 3) (.bool true) 34 rfl (by kernel_rfl) (by kernel_rfl) (by kernel_rfl) (by kernel_rfl) (by kernel_rfl) rfl (by kernel_rfl) (by kernel_rfl) (fun W hW => cell_run 4 (.tmp 33) ⟨fl, 0 + r, none⟩ (.bool true) _ (by kernel_rfl) (by kernel_rfl) hW.2 Try.underlying4 rfl (by kernel_rfl)) S0 (fun _ _ _ h => h) ?_
            simp only [Act.put, List.setIfInBounds_toArray, List.set_cons_zero, List.set_cons_succ]
            refine take_c (i := 4) (.bool false) 35 rfl (by kernel_rfl) (by kernel_rfl) (by kernel_rfl) (by kernel_rfl) (by kernel_rfl) rfl (by kernel_rfl) (by kernel_rfl) (fun W hW => by kernel_rfl) S0 (fun _ _ _ h => h) ?_
            simp only [Act.put, List.setIfInBounds_toArray, List.set_cons_zero, List.set_cons_succ]
            refine take_c (i := 5) (.bool false) 36 rfl (by kernel_rfl) (by kernel_rfl) (by kernel_rfl) (by kernel_rfl) (by kernel_rfl) rfl (by kernel_rfl) (by kernel_rfl) (fun W hW => by kernel_rfl) S0 (fun _ _ _ h => h) ?_
            simp only [Act.put, List.setIfInBounds_toArray, List.set_cons_zero, List.set_cons_succ]
            refine skip_c (i := 6) 37 rfl (by kernel_rfl) (by kernel_rfl) (by kernel_rfl) (by kernel_rfl) (by kernel_rfl) rfl (by kernel_rfl) (by kernel_rfl) S0 (fun _ _ _ h => h) ?_
            simp only [Act.put, List.setIfInBounds_toArray, List.set_cons_zero, List.set_cons_succ]
            refine skip_c (i := 7) 38 rfl (by kernel_rfl) (by kernel_rfl) (by kernel_rfl) (by kernel_rfl) (by kernel_rfl) rfl (by kernel_rfl) (by kernel_rfl) S0 (fun _ _ _ h => h) ?_
            simp only [Act.put, List.setIfInBounds_toArray, List.set_cons_zero, List.set_cons_succ]
            refine skip_c (i := 8) 39 rfl (by kernel_rfl) (by kernel_rfl) (by kernel_rfl) (by kernel_rfl) (by kernel_rfl) rfl (by kernel_rfl) (by kernel_rfl) S0 (fun _ _ _ h => h) ?_
            simp only [Act.put, List.setIfInBounds_toArray, List.set_cons_zero, List.set_cons_succ]
            refine skip_c (i := 9) 40 rfl (by kernel_rfl) (by kernel_rfl) (by kernel_rfl) (by kernel_rfl) (by kernel_rfl) rfl (by kernel_rfl) (by kernel_rfl) S0 (fun _ _ _ h => h) ?_
            simp only [Act.put, List.setIfInBounds_toArray, List.set_cons_zero, List.set_cons_succ]
            refine skip_c (i := 10) 41 rfl (by kernel_rfl) (by kernel_rfl) (by kernel_rfl) (by kernel_rfl) (by kernel_rfl) rfl (by kernel_rfl) (by kernel_rfl) S0 (fun _ _ _ h => h) ?_
            simp only [Act.put, List.setIfInBounds_toArray, List.set_cons_zero, List.set_cons_succ]
            refine skip_c (i := 11) 42 rfl (by kernel_rfl) (by kernel_rfl) (by kernel_rfl) (by kernel_rfl) (by kernel_rfl) rfl (by kernel_rfl) (by kernel_rfl) S0 (fun _ _ _ h => h) ?_
            simp only [Act.put, List.setIfInBounds_toArray, List.set_cons_zero, List.set_cons_succ]
            refine skip_c (i := 12) 43 rfl (by kernel_rfl) (by kernel_rfl) (by kernel_rfl) (by kernel_rfl) (by kernel_rfl) rfl (by kernel_rfl) (by kernel_rfl) S0 (fun _ _ _ h => h) ?_
            simp only [Act.put, List.setIfInBounds_toArray, List.set_cons_zero, List.set_cons_succ]
            refine skip_c (i := 13) 44 rfl (by kernel_rfl) (by kernel_rfl) (by kernel_rfl) (by kernel_rfl) (by kernel_rfl) rfl (by kernel_rfl) (by kernel_rfl) S0 (fun _ _ _ h => h) ?_
            simp only [Act.put, List.setIfInBounds_toArray, List.set_cons_zero, List.set_cons_succ]
            refine skip_c (i := 14) 45 rfl (by kernel_rfl) (by kernel_rfl) (by kernel_rfl) (by kernel_rfl) (by kernel_rfl) rfl (by kernel_rfl) (by kernel_rfl) S0 (fun _ _ _ h => h) ?_
            simp only [Act.put, List.setIfInBounds_toArray, List.set_cons_zero, List.set_cons_succ]
            refine skip_c (i := 15) 46 rfl (by kernel_rfl) (by kernel_rfl) (by kernel_rfl) (by kernel_rfl) (by kernel_rfl) rfl (by kernel_rfl) (by kernel_rfl) S0 (fun _ _ _ h => h) ?_
            simp only [Act.put, List.setIfInBounds_toArray, List.set_cons_zero, List.set_cons_succ]
            refine skip_c (i := 16) 47 rfl (by kernel_rfl) (by kernel_rfl) (by kernel_rfl) (by kernel_rfl) (by kernel_rfl) rfl (by kernel_rfl) (by kernel_rfl) S0 (fun _ _ _ h => h) ?_
            simp only [Act.put, List.setIfInBounds_toArray, List.set_cons_zero, List.set_cons_succ]
            refine skip_c (i := 17) 48 rfl (by kernel_rfl) (by kernel_rfl) (by kernel_rfl) (by kernel_rfl) (by kernel_rfl) rfl (by kernel_rfl) (by kernel_rfl) S0 (fun _ _ _ h => h) ?_
            simp only [Act.put, List.setIfInBounds_toArray, List.set_cons_zero, List.set_cons_succ]
            refine skip_c (i := 18) 49 rfl (by kernel_rfl) (by kernel_rfl) (by kernel_rfl) (by kernel_rfl) (by kernel_rfl) rfl (by kernel_rfl) (by kernel_rfl) S0 (fun _ _ _ h => h) ?_
            simp only [Act.put, List.setIfInBounds_toArray, List.set_cons_zero, List.set_cons_succ]
            refine skip_c (i := 19) 50 rfl (by kernel_rfl) (by kernel_rfl) (by kernel_rfl) (by kernel_rfl) (by kernel_rfl) rfl (by kernel_rfl) (by kernel_rfl) S0 (fun _ _ _ h => h) ?_
            simp only [Act.put, List.setIfInBounds_toArray, List.set_cons_zero, List.set_cons_succ]
            refine skip_c (i := 20) 51 rfl (by kernel_rfl) (by kernel_rfl) (by kernel_rfl) (by kernel_rfl) (by kernel_rfl) rfl (by kernel_rfl) (by kernel_rfl) S0 (fun _ _ _ h => h) ?_
            simp only [Act.put, List.setIfInBounds_toArray, List.set_cons_zero, List.set_cons_succ]
            refine skip_c (i := 21) 52 rfl (by kernel_rfl) (by kernel_rfl) (by kernel_rfl) (by kernel_rfl) (by kernel_rfl) rfl (by kernel_rfl) (by kernel_rfl) S0 (fun _ _ _ h => h) ?_
            simp only [Act.put, List.setIfInBounds_toArray, List.set_cons_zero, List.set_cons_succ]
            refine skip_c (i := 22) 53 rfl (by kernel_rfl) (by kernel_rfl) (by kernel_rfl) (by kernel_rfl) (by kernel_rfl) rfl (by kernel_rfl) (by kernel_rfl) S0 (fun _ _ _ h => h) ?_
            simp only [Act.put, List.setIfInBounds_toArray, List.set_cons_zero, List.set_cons_succ]
            refine any_left (by kernel_rfl) ?_
            refine wpAny_tail 23 (by kernel_rfl) (by kernel_rfl) ?_
            simp only [List.append, List.append_eq, List.drop_succ_cons, List.drop_zero, List.drop_nil]
            go_wp2
            go_roundw
            case rel => exact ⟨k + 1, lk, by omega, rfl, by go_num, HFk, HI2, HOd⟩
            case measure => simp [intOf]; omega
          | false =>
            have hS0 : wr.drew.cell? ⟨S, 0, none⟩ = some (.slice (some ⟨fl, 0, none⟩) n n) ∧ wr.drew.cell? ⟨fl, r, none⟩ = some (.bool false) ∧ wr.drew.cell? ⟨D, 0, none⟩ = some (.pointer (some ⟨p, 0, none⟩)) ∧ wr.drew.cell? ⟨p, 0, none⟩ = some (.slice (some ⟨nb, noff, none⟩) n c) ∧ wr.drew.cell? ⟨nb, noff + r * 4 + 3, none⟩ = some (.int .i64 (dr : Int)) ∧ wr.drew.cell? ⟨G, 0, none⟩ = some (.int .i64 (t : Int)) ∧ wr.drew.cell? ⟨nb, noff + t * 4 + 3, none⟩ = some (.int .i64 (dt : Int)) := ⟨v1, cfr, v2, c0, cd1, v3, cd2⟩
            by_cases hd : dr ≤ dt
            · have HI2 := Lib.hid (HSk2.out hrt (.inr hd))
              have d1 : decide ((dt : Int) < (dr : Int)) = false := decide_eq_false (by omega)
              have d2 : decide (dt < dr) = false := decide_eq_false (by omega)
              clear hbs hrt HSk2 HYk HMk HGk hd
              go_wp2
              go_region_held_law (fun w' => w'.cell? ⟨S, 0, none⟩ = some (.slice (some ⟨fl, 0, none⟩) n n) ∧ w'.cell? ⟨fl, r, none⟩ = some (.bool false) ∧ w'.cell? ⟨D, 0, none⟩ = some (.pointer (some ⟨p, 0, none⟩)) ∧ w'.cell? ⟨p, 0, none⟩ = some (.slice (some ⟨nb, noff, none⟩) n c) ∧ w'.cell? ⟨nb, noff + r * 4 + 3, none⟩ = some (.int .i64 (dr : Int)) ∧ w'.cell? ⟨G, 0, none⟩ = some (.int .i64 (t : Int)) ∧ w'.cell? ⟨nb, noff + t * 4 + 3, none⟩ = some (.int .i64 (dt : Int)))
                (exact hS0)
                (fail)
              go_wp2
              go_roundw
              case rel => exact ⟨k + 1, lk, by omega, rfl, by go_num, HFk, HI2, HOd⟩
              case measure => simp [intOf]; omega
            · have d1 : decide ((dt : Int) < (dr : Int)) = true := decide_eq_true (by omega)
              have d2 : decide (dt < dr) = true := decide_eq_true (by omega)
              have HNe := Lib.hid hrt
              clear hbs hrt HSk2 HGk hd
              have v4d : wr.drew.cell? ⟨M, 0, none⟩ = some (.func (.func 51) #[] #[.pointer (some ⟨S, 0, none⟩), .pointer (some ⟨D, 0, none⟩), .pointer (some ⟨G, 0, none⟩), .pointer (some ⟨M, 0, none⟩)]) := v4
              go_wp2
              go_region_held_law (fun w' => w'.cell? ⟨S, 0, none⟩ = some (.slice (some ⟨fl, 0, none⟩) n n) ∧ w'.cell? ⟨fl, r, none⟩ = some (.bool false) ∧ w'.cell? ⟨D, 0, none⟩ = some (.pointer (some ⟨p, 0, none⟩)) ∧ w'.cell? ⟨p, 0, none⟩ = some (.slice (some ⟨nb, noff, none⟩) n c) ∧ w'.cell? ⟨nb, noff + r * 4 + 3, none⟩ = some (.int .i64 (dr : Int)) ∧ w'.cell? ⟨G, 0, none⟩ = some (.int .i64 (t : Int)) ∧ w'.cell? ⟨nb, noff + t * 4 + 3, none⟩ = some (.int .i64 (dt : Int)))
                (exact hS0)
                (fail)
              go_wp2_with (go_at_call 51; (with_reducible refine HC.out.mono ?_); rintro e w5 ⟨bb, rfl, l5, hF5, hP5, hO5⟩; rcases bb with _ | _)
              · go_roundw
                case rel => exact ⟨k + 1, l5, by omega, rfl, by go_num, hF5, HMk.out l5 HNe.out hP5.out, only_trans HOd.out hO5.out⟩
                case measure => simp [intOf]; omega
              · (try rw [Exit.noGoto_ret])
                go_ret
                exact ⟨true, rfl, l5, hF5, HYk.out l5 hP5.out, only_trans HO.out (only_trans HOd.out hO5.out)⟩
      · have hkm : k = m := by omega
        subst hkm
        have HP := Lib.hid (HDn.out lk HIk.out)
        go_wp2
        (try rw [Exit.noGoto_ret])
        go_ret
        exact ⟨false, rfl, lk, HFk, HP, only_trans HO.out HOk.out⟩
end Go.Proofs.Ytbeihiokjhfepaa
