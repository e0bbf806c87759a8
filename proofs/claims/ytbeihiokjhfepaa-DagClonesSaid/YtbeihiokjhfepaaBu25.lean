/- Lemmas under the proofs of this place: DagPPast. No statement is proved here. -/
import Derived.Test.YtbeihiokjhfepaaBu23
import Derived.Test.YtbeihiokjhfepaaBu10
import Derived.Test.YtbeihiokjhfepaaBu12
import Derived.Laws.EntriesVeiled
set_option linter.unusedSimpArgs false
set_option linter.unusedVariables false
set_option maxRecDepth 100000
set_option maxHeartbeats 16000000
namespace Go.Proofs.Ytbeihiokjhfepaa
open Go.RowKit
theorem Only.cell {w w' : World} {g : Nat} (h : Only w w' g) {p : Addr} (hp : p.block < w.heap.size) (hn : p.block ≠ g) : w'.cell? p = w.cell? p := World.cell?_of_block (h.block _ hp (fun e => hn (by injection e)))
structure PastV (W : World) (p n fl S D M : Nat) : Prop where
  s : W.cell? ⟨S, 0, none⟩ = some (.slice (some ⟨fl, 0, none⟩) n n)
  d : W.cell? ⟨D, 0, none⟩ = some (.pointer (some ⟨p, 0, none⟩))
  m : W.cell? ⟨M, 0, none⟩ = some (.func (.func 43) #[] #[.pointer (some ⟨S, 0, none⟩), .pointer (some ⟨D, 0, none⟩), .pointer (some ⟨M, 0, none⟩)])
theorem mark_any {w0 W1 : World} {p n c fl S D M : Nat} {g : Gr} {A : Option Addr} {mv : Value} (ok : GrOk g) (h : PV w0 p g A n c mv) (hpl : ∀ i, i < g.length → (g.getD i nd0).preds.length ≤ 5000) (hl : n ≤ 5000) (hb : Below w0.heap.size w0 W1) (hfl : w0.heap.size ≤ fl)
    (hV : ∀ W, Only W1 W fl → PastV W p n fl S D M) :
    ∀ (N q : Nat), q < N → q < g.length → ∀ (W : World) (l : List Bool), Only W1 W fl → FlB W fl l → l.length = n → MarkPre g q l →
      Calls Try.prog 43 #[.int .i64 (q : Int), .pointer (some ⟨S, 0, none⟩), .pointer (some ⟨D, 0, none⟩), .pointer (some ⟨M, 0, none⟩)] W fun e w' => e = .returned (.tuple #[]) ∧ ∃ l', Hid (FlB w' fl l') ∧ Hid (MarkP g q l l') ∧ Hid (Only W w' fl) := by
  intro N
  induction N with
  | zero => intro q hq; omega
  | succ N ih =>
    intro q hqN hqg W l hW hF hll hpre
    have hqn : q < n := by rw [h.len]; exact hqg
    have hbW : Below w0.heap.size w0 W := below_only hb hW hfl hb.size
    obtain ⟨v1, v2, v3⟩ := hV W hW
    have cf := hF.cell (k := q) (by omega)
    have u0 : (0 : Int) ≤ (q : Int) := by omega
    have u1 : (q : Int) < (n : Int) := by omega
    obtain ⟨bo, hbo⟩ : ∃ b, b = l.getD q false := ⟨_, rfl⟩
    rw [← hbo] at cf
    cases bo with
    | true =>
      have HP : Hid (MarkP g q l l) := MarkP.same hbo.symm
      have HF := Lib.hid hF
      clear hbo hF hpre hll ih hV hpl h ok hbW hW hb
      go_enter Try.func43, Try.ntmps43
      go_wp2
      refine bodyPost_ret (results_none rfl _ _ _) rfl ?_
      exact ⟨rfl, l, HF, HP, only_refl _ _⟩
    | false =>
      have cz := hF.frozen q
      have hS : FlB (W.setCell ⟨fl, q, none⟩ (.bool true)) fl (l.set q true) := hF.set_ q true
      have hO : Only W (W.setCell ⟨fl, q, none⟩ (.bool true)) fl := only_set W fl q _
      obtain ⟨W2, hW2⟩ : ∃ W2, W2 = W.setCell ⟨fl, q, none⟩ (.bool true) := ⟨_, rfl⟩
      rw [← hW2] at hS hO
      have HW2 := Lib.hid hW2
      have hO2 := only_trans hW hO
      obtain ⟨nb, noff, rfl, c0, ⟨-, ⟨pA, pc, c1, hs⟩, -, -⟩, -⟩ := node_at h hqg W2 (below_only hb hO2 hfl hb.size)
      obtain ⟨y1, y2, y3⟩ := hV W2 hO2
      have hm5 := hpl q hqg
      rw [← predI_length] at hm5
      obtain ⟨m, hm⟩ : ∃ m, m = (predI g q).length := ⟨_, rfl⟩
      rw [← hm] at c1 hm5
      have HS : Hid (0 < (predI g q).length → ∃ b off, pA = some ⟨b, off, none⟩ ∧ b ≠ fl ∧ b < W2.heap.size ∧ ∀ k, k < (predI g q).length → W2.cell? ⟨b, off + k, none⟩ = some (.int .i64 ((predI g q).getD k 0 : Nat))) := fun hh => by
        obtain ⟨nb2, noff2, e1, c2, ⟨-, ⟨pA2, pc2, c3, hs2⟩, -, -⟩, -⟩ := node_at h hqg w0 (Below.refl _ _)
        obtain ⟨b, off, e, hbl, hc⟩ := hs2.at_ hh
        have hbl2 := (h.one hqg)
        obtain ⟨b4, off4, e4, hb4, -⟩ := hbl2
        injection e1 with e1
        injection e4 with e4
        injection e1 with e5 e6
        injection e4 with e7 e8
        subst e5 e6 e7 e8
        have hx := (below_only hb hO2 hfl hb.size).cell (p := ⟨nb, noff + q * 4 + 1, none⟩) hb4
        rw [c3, c1] at hx
        injection hx with hx
        injection hx with hx _ _
        subst hx
        exact ⟨b, off, e, by omega, Nat.lt_of_lt_of_le hbl (below_only hb hO2 hfl hb.size).size, fun k hk => ((below_only hb hO2 hfl hb.size).cell (p := ⟨b, off + k, none⟩) hbl).trans (hc k hk)⟩
      have HI0 : Hid (MarkI g q l (l.set q true)) := MarkI.start (by omega)
      have HM := Lib.hid hm
      have HFl := Lib.hid hS
      have HV : Hid (∀ V, Only W2 V fl → PastV V p n fl S D M) := fun V hV2 => hV V (only_trans hO2 hV2)
      have HIH : Hid (∀ (k : Nat) (lk : List Bool) (V : World), k < m → MarkI g q l lk → Only W2 V fl → FlB V fl lk → Calls Try.prog 43 #[.int .i64 ((predI g q).getD k 0 : Nat), .pointer (some ⟨S, 0, none⟩), .pointer (some ⟨D, 0, none⟩), .pointer (some ⟨M, 0, none⟩)] V fun e w' => e = .returned (.tuple #[]) ∧ ∃ l', Hid (FlB w' fl l') ∧ Hid (MarkI g q l l' ∧ (∀ j, on lk j → on l' j) ∧ on l' ((predI g q).getD k 0)) ∧ Hid (Only V w' fl)) := fun k lk V hk hI hVO hFl => by
        have hmem := predI_at (g := g) (p := q) (k := k) (by omega)
        have hlt := predI_lt ok hqg _ hmem
        refine (ih _ (by omega) (by omega) V lk (only_trans hO2 hVO) hFl (by rw [hI.len]; exact hll) (hI.pre hpre hlt)).mono ?_
        rintro e w' ⟨rfl, l', q1, q2, q3⟩
        exact ⟨rfl, l', q1, ⟨hI.step ok hqg hmem q2.out, q2.out.up, q2.out.self⟩, q3⟩
      have HD : Hid (∀ lk, MarkI g q l lk → (∀ j, j < m → on lk ((predI g q).getD j 0)) → MarkP g q l lk) := fun lk hI ha => hI.done hqg fun r hr => by
        obtain ⟨i, hi, e⟩ := List.getElem_of_mem hr
        have h2 := ha i (by omega)
        rw [List.getD, List.getElem?_eq_getElem hi, Option.getD_some, e] at h2
        exact h2
      have HO := Lib.hid hO
      clear hbo hS hO hW2 hO2 hs hm hpre hll ih hV hpl h ok hbW hW hb hF
      rw [HW2.out] at c0 c1 y1 y2 y3
      go_enter Try.func43, Try.ntmps43
      go_wp2
      rw [← HW2.out]
      clear c0 c1 y1 y2 y3 v1 v2 v3 cf cz
      go_loopw [6, 23] (fun v i wr => ∃ (k : Nat) (lk : List Bool), k ≤ m ∧ i = .int .i64 (k : Int) ∧ Hid (FlB wr fl lk) ∧ Hid (MarkI g q l lk) ∧ Hid (∀ j, j < k → on lk ((predI g q).getD j 0)) ∧ Hid (Only W2 wr fl)) (fun _ i _ => m - (intOf i).toNat)
      case atStart => exact ⟨0, _, Nat.zero_le _, rfl, HFl, HI0, fun j hj => by omega, only_refl _ _⟩
      case round =>
        obtain ⟨k, lk, hk, rfl, HFk, HIk, HAk, HOk⟩ := hrel
        by_cases hlt : k < m
        · obtain ⟨b, off, rfl, hbf, hbl, hc⟩ := HS.out (by have := HM.out; omega)
          have cx := hc k (by have := HM.out; omega)
          rw [← Only.cell HOk.out (p := ⟨b, off + k, none⟩) hbl hbf] at cx
          obtain ⟨v1, v2, v3⟩ := HV.out _ HOk.out
          have HC := Lib.hid (HIH.out k lk wr hlt HIk.out HOk.out HFk.out)
          obtain ⟨r, hr⟩ : ∃ r, r = (predI g q).getD k 0 := ⟨_, rfl⟩
          rw [← hr] at HC cx
          have HR := Lib.hid hr
          have u2 : (0 : Int) ≤ (k : Int) := by omega
          have u3 : (k : Int) < (m : Int) := by omega
          clear hr hc hbf hbl
          go_wp2_with (go_at_call 43; (with_reducible refine HC.out.mono ?_); rintro e w5 ⟨rfl, l5, hF5, hI5, hO5⟩)
          go_roundw
          case rel => exact ⟨k + 1, l5, by omega, by go_num, hF5, hI5.out.1, fun j hj => by
            rcases Nat.lt_or_ge j k with h1 | h1
            · exact hI5.out.2.1 _ (HAk.out j h1)
            · rw [show j = k by omega, ← HR.out]; exact hI5.out.2.2, only_trans HOk.out hO5.out⟩
          case measure => simp [intOf]; omega
        · have hkm : k = m := by omega
          subst hkm
          have HP := Lib.hid (HD.out lk HIk.out HAk.out)
          go_wp2
          go_end0
          exact ⟨rfl, lk, HFk, HP, only_trans HO.out HOk.out⟩
theorem two_new (w : World) (o : Obj) (v : Value) (t : TypeId) : ((w.alloc o).alloc (.cells #[v] t)).cell? ⟨w.heap.size + 1, 0, none⟩ = some v ∧ ((w.alloc o).alloc (.cells #[v] t)).frozen? ⟨w.heap.size + 1, 0, none⟩ = false := by
  have hB : Blk ((w.alloc o).alloc (.cells #[v] t)) (w.alloc o).heap.size t #[v] := Blk.new _ _ _
  rw [show (w.alloc o).heap.size = w.heap.size + 1 by simp] at hB
  exact ⟨hB.cell 0, hB.frozen 0⟩
theorem past2_any {W : World} {fl S n q : Nat} {l : List Bool} (hF : FlB W fl l) (hll : l.length = n) (hq : q < n) (hS : W.cell? ⟨S, 0, none⟩ = some (.slice (some ⟨fl, 0, none⟩) n n)) :
    Calls Try.prog 46 #[.int .i64 (q : Int), .pointer (some ⟨S, 0, none⟩)] W fun e w' => e = .returned (.bool (l.getD q false)) ∧ Below W.heap.size W w' := by
  have cf := hF.cell (k := q) (by omega)
  have u0 : (0 : Int) ≤ (q : Int) := by omega
  have u1 : (q : Int) < (n : Int) := by omega
  obtain ⟨bo, hbo⟩ : ∃ b, b = l.getD q false := ⟨_, rfl⟩
  rw [← hbo] at cf ⊢
  clear hbo hF hll hq
  go_enter Try.func46, Try.ntmps46
  go_wp2
  go_ret
  exact ⟨rfl, Below.refl _ _⟩
theorem ppast_any {w : World} {p n c : Nat} {g : Gr} {A : Option Addr} {mv : Value} (ok : GrOk g) (h : PV w p g A n c mv) (hpl : ∀ i, i < g.length → (g.getD i nd0).preds.length ≤ 5000) (hl : g.length ≤ 5000) (L : List Bs) (X : Option Addr) (m d : Nat) (hm : m = L.length) (hs : SS w w.heap.size X L) (hlm : m ≤ 1000) :
    Calls Try.prog 16 #[.pointer (some ⟨p, 0, none⟩), .slice X m d] w (GivesStrs (pastG g L) w) := by
  obtain ⟨wb, hwb⟩ : ∃ wb, wb = w.alloc (.cells #[.pointer (some ⟨p, 0, none⟩)] 23) := ⟨_, rfl⟩
  have hV : BoxP w wb p := hwb
  have hvb := h.up hV.below
  have hgn : n = g.length := h.len
  have hnl : n ≤ 5000 := by omega
  have eg : ∀ args w, (callFunc 46 args).run Try.prog w = .ok (.enter 46 args) w := enters_of Try.func46 (by kernel_rfl) rfl
  obtain ⟨fs, hfs⟩ : ∃ fs, fs = foundL g L := ⟨_, rfl⟩
  obtain ⟨y, hy⟩ : ∃ y, y = fs.length := ⟨_, rfl⟩
  have hfl : ∀ k, k < y → fs.getD k 0 < g.length := fun k hk => by
    refine found_lt g L _ ?_
    rw [← hfs, List.getD, List.getElem?_eq_getElem (by omega)]
    exact List.getElem_mem _
  have hyl : y ≤ 1000 := by rw [hy, hfs]; have := found_len g L; omega
  have HFo : Hid (∀ W, Below wb.heap.size wb W → Calls Try.prog 39 #[.pointer (some ⟨p, 0, none⟩), .slice X m d] W fun e w' => ∃ Y e2, e = .returned (.slice Y y e2) ∧ Hid (NS w' w'.heap.size Y fs) ∧ Hid (∀ ad, Y = some ad → W.heap.size ≤ ad.block ∧ ad.block < w'.heap.size) ∧ Hid (Below W.heap.size W w')) := fun W hW =>
    (found_any (hvb.up hW) L X m d hm ((hs.below (below16 hV.below hW)).more (below16 hV.below hW).size) hlm).mono fun e w' hh => by
      obtain ⟨Y, e2, q1, q2, q3⟩ := hh
      rw [hy, hfs]
      exact ⟨Y, e2, q1, own_ns q2.out, fun ad e => q2.out.lt ad.block (by rw [e]; rfl), q3⟩
  have HCh : Hid (∀ W (fl S : Nat) (l : List Bool), Below wb.heap.size wb W → FlB W fl l → l.length = n → W.cell? ⟨S, 0, none⟩ = some (.slice (some ⟨fl, 0, none⟩) n n) → S < W.heap.size → Calls Try.prog 45 #[.pointer (some ⟨p, 0, none⟩), .func (.func 46) #[] #[.pointer (some ⟨S, 0, none⟩)]] W (GivesOwnI ((List.range g.length).filter fun j => l.getD j false) W)) := fun W fl S l hW hF hll hS hSl =>
    chosen_any (hvb.up hW) hl 46 #[.pointer (some ⟨S, 0, none⟩)] (fun j => l.getD j false) eg fun i hi V hV2 => past2_any (hF.below hV2 hF.lt) hll (by omega) ((hV2.cell (p := ⟨S, 0, none⟩) hSl).trans hS)
  have HRi : Hid (∀ W Z k e2 (s : List Nat), Below wb.heap.size wb W → k = s.length → NS W W.heap.size Z s → (∀ j ∈ s, j < g.length) → k ≤ 5000 → Calls Try.prog 44 #[.pointer (some ⟨p, 0, none⟩), .slice Z k e2] W (GivesStrs (sortB (toldL g s)) W)) := fun W Z k e2 s hW hk hZ hj hkl =>
    (rising_any (hvb.up hW) s Z k e2 hk hZ hj hkl).mono fun e w' hh => hh.strs
  have HPa : Hid (∀ l, MarkL g fs y l → sortB (toldL g ((List.range g.length).filter fun j => l.getD j false)) = pastG g L) := fun l hl => by
    rw [hfs] at hl
    rw [hy, hfs] at hl
    exact hl.past ok
  have HMk : Hid (∀ (W1 : World) (fl S D M : Nat), Below wb.heap.size wb W1 → wb.heap.size ≤ fl → (∀ W, Only W1 W fl → PastV W p n fl S D M) → ∀ (k : Nat) (l : List Bool) (W : World), k < y → MarkL g fs k l → Only W1 W fl → FlB W fl l →
      Calls Try.prog 43 #[.int .i64 (fs.getD k 0 : Nat), .pointer (some ⟨S, 0, none⟩), .pointer (some ⟨D, 0, none⟩), .pointer (some ⟨M, 0, none⟩)] W fun e w' => e = .returned (.tuple #[]) ∧ ∃ l', Hid (FlB w' fl l') ∧ Hid (MarkL g fs (k + 1) l') ∧ Hid (Only W w' fl)) := fun W1 fl S D M hW1 hfl2 hVs k l W hk hL hO hF => by
    refine (mark_any ok hvb hpl hnl hW1 hfl2 hVs _ _ (Nat.lt_succ_self _) (hfl k hk) W l hO hF (by rw [hL.len, hgn]) (hL.pre _)).mono ?_
    rintro e w' ⟨rfl, l', q1, q2, q3⟩
    exact ⟨rfl, l', q1, hL.step q2.out, q3⟩
  have HL0 : Hid (MarkL g fs 0 (List.replicate n false)) := by show MarkL _ _ _ _; rw [hgn]; exact MarkL.start g fs
  have HLl : Hid (∀ k l, MarkL g fs k l → l.length = n) := fun k l hh => by rw [hh.len, hgn]
  have HFl : Hid (∀ l : List Bool, ((List.range g.length).filter fun j => l.getD j false).length ≤ 5000 ∧ ∀ j ∈ (List.range g.length).filter (fun j => l.getD j false), j < g.length) := fun l => ⟨by
    have h1 := List.length_filter_le (fun j => l.getD j false) (List.range g.length)
    rw [List.length_range] at h1
    omega, filter_lt _ _⟩
  have HYl := Lib.hid hy
  have HWb := Lib.hid hwb
  have HBw := Lib.hid hV.below
  have HDc : Hid (∀ W, Below wb.heap.size wb W → W.cell? ⟨w.heap.size, 0, none⟩ = some (.pointer (some ⟨p, 0, none⟩)) ∧ W.cell? ⟨p, 0, none⟩ = some (.slice A n c)) := fun W hW => ⟨hV.cell hW, (hvb.up hW).c0⟩
  have HDl := Lib.hid hV.lt
  have hmf : ∀ (fn : Fn) (first cap : Array Value) (w : World), (Instr.makeFunc fn first cap).run Try.prog w = .ok (.func fn first cap) w := fun _ _ _ _ => rfl
  clear hm hs hpl hlm hl hfs hy hfl eg hgn hV hvb hwb h ok
  go_enter Try.func16, Try.ntmps16
  go_upto_region 1 with (fail)
  rw [← HWb.out]
  obtain ⟨c0, c1⟩ := HDc.out _ (Below.refl _ _)
  go_upto_region 6 with (at_make; refine make_flags rfl n (.tmp 15) (.tmp 15) rfl rfl rfl (by omega) ?_; intro w2 hF2 hb2; obtain ⟨x1, x2⟩ := two_new w2 (.cells #[.slice (some ⟨wb.heap.size, 0, none⟩) n n] 68) .nilFunc 69)
  obtain ⟨fl, hfl⟩ : ∃ fl, fl = wb.heap.size := ⟨_, rfl⟩
  obtain ⟨D, hD⟩ : ∃ D, D = w.heap.size := ⟨_, rfl⟩
  obtain ⟨S, hS⟩ : ∃ S, S = w2.heap.size := ⟨_, rfl⟩
  obtain ⟨M, hM⟩ : ∃ M, M = w2.heap.size + 1 := ⟨_, rfl⟩
  rw [← hM, ← hS, ← hD, ← hfl]
  obtain ⟨W1, hW1⟩ : ∃ W1, W1 = (w2.alloc (.cells #[.slice (some ⟨fl, 0, none⟩) n n] 68)).alloc (.cells #[.func (.func 43) #[] #[.pointer (some ⟨S, 0, none⟩), .pointer (some ⟨D, 0, none⟩), .pointer (some ⟨M, 0, none⟩)]] 69) := ⟨_, rfl⟩
  rw [← hW1]
  have hF2' := hF2.out
  rw [← hfl] at hF2'
  have hflt : fl < w2.heap.size := hF2'.lt
  have hb21 : Below w2.heap.size w2 W1 := by rw [hW1]; exact ((Below.refl _ _).alloc (Nat.le_refl _) _).alloc (by simp) _
  have hBb : Below wb.heap.size wb W1 := below16 hb2.out hb21
  have hFW : FlB W1 fl (List.replicate n false) := hF2'.below hb21 hflt
  have hKS : Blk W1 S 68 #[.slice (some ⟨fl, 0, none⟩) n n] := by
    rw [hW1, hS]
    exact (Blk.new _ _ _).alloc _
  have hKM : Blk W1 M 69 #[.func (.func 43) #[] #[.pointer (some ⟨S, 0, none⟩), .pointer (some ⟨D, 0, none⟩), .pointer (some ⟨M, 0, none⟩)]] := by
    have h1 := Blk.new (w2.alloc (.cells #[.slice (some ⟨fl, 0, none⟩) n n] 68)) 69 #[.func (.func 43) #[] #[.pointer (some ⟨S, 0, none⟩), .pointer (some ⟨D, 0, none⟩), .pointer (some ⟨M, 0, none⟩)]]
    rw [← hW1, show (w2.alloc (.cells #[.slice (some ⟨fl, 0, none⟩) n n] 68)).heap.size = w2.heap.size + 1 by simp, ← hM] at h1
    exact h1
  have hDl : D < fl := by rw [hD, hfl]; exact HDl.out
  have hsz1 : wb.heap.size ≤ w2.heap.size := hb2.out.size
  have hsz2 : w2.heap.size ≤ W1.heap.size := hb21.size
  have HVs : Hid (∀ W, Only W1 W fl → PastV W p n fl S D M) := fun W hW =>
    ⟨(Only.cell hW (p := ⟨S, 0, none⟩) hKS.lt (show S ≠ fl by omega)).trans (hKS.cell 0), (Only.cell hW (p := ⟨D, 0, none⟩) (show D < _ by omega) (show D ≠ fl by omega)).trans (by rw [hD]; exact (HDc.out W1 hBb).1), (Only.cell hW (p := ⟨M, 0, none⟩) hKM.lt (show M ≠ fl by omega)).trans (hKM.cell 0)⟩
  have HM2 := Lib.hid (HMk.out W1 fl S D M hBb (by omega) HVs.out)
  have HSl : Hid (∀ W, Only W1 W fl → S < W.heap.size ∧ D < W.heap.size ∧ Below wb.heap.size wb W) := fun W hW => ⟨Nat.lt_of_lt_of_le hKS.lt hW.size, Nat.lt_of_lt_of_le (by omega) hW.size, below_only hBb hW (by omega) hBb.size⟩
  have HBb := Lib.hid hBb
  have HFW := Lib.hid hFW
  have HF1 : Hid (fl < W1.heap.size) := hFW.lt
  obtain ⟨v1, v2, v3⟩ := HVs.out W1 (only_refl _ _)
  have HDf := Lib.hid hD
  have HFf := Lib.hid hfl
  clear hsz1 hsz2 hDl hKS hKM hFW hBb hb21 hflt hF2' hF2 hb2 hW1 hM hS hD hfl x1 x2 HMk HDc HDl HWb c0 c1
  go_wp2_with (go_at_call 39; (with_reducible refine (HFo.out _ HBb.out).mono ?_); rintro e w3 ⟨Y, e2, rfl, hY, hYb, b3⟩)
  have HO3 : Hid (Only W1 w3 fl) := only_below b3.out fl
  have HF3 : Hid (FlB w3 fl (List.replicate n false)) := HFW.out.below b3.out HF1.out
  have HYc : Hid (0 < fs.length → ∃ b off, Y = some ⟨b, off, none⟩ ∧ b ≠ fl ∧ b < w3.heap.size ∧ ∀ k, k < fs.length → w3.cell? ⟨b, off + k, none⟩ = some (.int .i64 (fs.getD k 0 : Nat))) := fun hh => by
    obtain ⟨b, off, e, hbl, hc⟩ := hY.out.at_ hh
    have h1 := (hYb.out _ e).1
    have h2 := HF1.out
    exact ⟨b, off, e, (show b ≠ fl by have h3 : W1.heap.size ≤ b := h1; omega), hbl, hc⟩
  clear v1 v2 v3 hY hYb b3
  go_loopw [8, 22] (fun v i wr => ∃ (k : Nat) (l : List Bool), k ≤ y ∧ i = .int .i64 (k : Int) ∧ Hid (FlB wr fl l) ∧ Hid (MarkL g fs k l) ∧ Hid (Only w3 wr fl)) (fun _ i _ => y - (intOf i).toNat)
  case atStart => exact ⟨0, _, Nat.zero_le _, rfl, HF3, HL0, only_refl _ _⟩
  case round =>
    obtain ⟨k, l, hk, rfl, HFk, HLk, HOk⟩ := hrel
    have hO1 := only_trans HO3.out HOk.out
    obtain ⟨v1, v2, v3⟩ := HVs.out _ hO1
    by_cases hlt : k < y
    · obtain ⟨b, off, rfl, hbf, hbl, hc⟩ := HYc.out (by have := HYl.out; omega)
      have cx := hc k (by have := HYl.out; omega)
      rw [← Only.cell HOk.out (p := ⟨b, off + k, none⟩) hbl hbf] at cx
      have HC := Lib.hid (HM2.out k l wr hlt HLk.out hO1 HFk.out)
      obtain ⟨r, hr⟩ : ∃ r, r = fs.getD k 0 := ⟨_, rfl⟩
      rw [← hr] at HC cx
      have u2 : (0 : Int) ≤ (k : Int) := by omega
      have u3 : (k : Int) < (y : Int) := by omega
      clear hr hc hbf hbl hO1
      go_wp2_with (go_at_call 43; (with_reducible refine HC.out.mono ?_); rintro e w5 ⟨rfl, l5, hF5, hL5, hO5⟩)
      go_roundw
      case rel => exact ⟨k + 1, l5, by omega, by go_num, hF5, hL5, only_trans HOk.out hO5.out⟩
      case measure => simp [intOf]; omega
    · have hkm : k = y := by omega
      subst hkm
      obtain ⟨s1, s2, s3⟩ := HSl.out _ hO1
      obtain ⟨s, hs⟩ : ∃ s, s = (List.range g.length).filter fun j => l.getD j false := ⟨_, rfl⟩
      obtain ⟨z, hz⟩ : ∃ z, z = s.length := ⟨_, rfl⟩
      have P0 : Below wr.heap.size wr wr.drew := (Below.refl _ _).drew
      have hsl := HFl.out l
      rw [← hs] at hsl
      have HC2 : Hid (Calls Try.prog 45 #[.pointer (some ⟨p, 0, none⟩), .func (.func 46) #[] #[.pointer (some ⟨S, 0, none⟩)]] wr.drew fun e w' => ∃ Z d, e = .returned (.slice Z z d) ∧ Hid (NS w' w'.heap.size Z s) ∧ Hid (Below wr.heap.size wr w')) := (HCh.out wr.drew fl S l s3.drew HFk.out (HLl.out _ _ HLk.out) v1 s1).mono fun e w' hh => by
        obtain ⟨Z, d, q1, q2, q3⟩ := hh
        rw [← hs] at q1 q2
        rw [← hz] at q1
        exact ⟨Z, d, q1, own_ns q2.out, below16 P0 q3.out⟩
      have HR2 : Hid (∀ W Z e2, Below wr.heap.size wr W → NS W W.heap.size Z s → Calls Try.prog 44 #[.pointer (some ⟨p, 0, none⟩), .slice Z z e2] W (GivesStrs (pastG g L) W)) := fun W Z e2 hW hZ => by
        rw [← HPa.out l HLk.out, ← hs]
        exact HRi.out W Z z e2 s (below16 s3 hW) hz hZ hsl.2 (by omega)
      have HC : Hid (∀ W, Below wr.heap.size wr W → W.cell? ⟨D, 0, none⟩ = some (.pointer (some ⟨p, 0, none⟩))) := fun W hW => (hW.cell (p := ⟨D, 0, none⟩) s2).trans v2
      have HS3 := Lib.hid s3
      have h0 := HC.out _ P0
      clear hsl hz hs s1 s2 s3 v1 v2 v3 hO1 HCh HRi HPa HM2 HVs HSl HFl HYc
      go_wp2
      go_region_held_law (fun w' => w'.cell? ⟨D, 0, none⟩ = some (.pointer (some ⟨p, 0, none⟩)))
        (exact HC.out _ (by assumption))
        (first
          | (go_at_call 45; (with_reducible refine HC2.out.mono ?_); rintro e x1 ⟨Z, dz, rfl, hZ, b1⟩; have P1 : Below wr.heap.size wr x1 := b1.out)
          | (go_at_call 44; (with_reducible refine (HR2.out _ _ _ P1 hZ.out).mono ?_); rintro e x2 ⟨A2, c2, rfl, h1, h2, h3, b2⟩; have P2 : Below wr.heap.size wr x2 := below16 P1 b2))
      go_wp2
      go_ret
      exact ⟨A2, c2, rfl, h1, h2, h3, below16 HBw.out (below16 HS3.out P2)⟩
theorem ppast_none (A : Option Addr) (n c : Nat) (w : World) : Calls Try.prog 16 #[.pointer none, .slice A n c] w (GivesStrs [] w) := by
  go_enter Try.func16, Try.ntmps16
  go_wp2
  go_ret
  exact ⟨none, 0, rfl, SS.nil _ _ _, Nat.le_refl _, by omega, (Below.refl _ _).alloc (Nat.le_refl _) _⟩
end Go.Proofs.Ytbeihiokjhfepaa
