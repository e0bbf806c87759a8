/- Lemmas under the proofs of this place: ManRParts, OpsN, ManRSteps. No statement is proved here. -/
import Derived.Test.YtnmcohdlogepdaaBu11
import Derived.Test.YtnmcohdlogepdaaBu05
import Derived.Deep.CutRange
section
set_option linter.unusedVariables false
set_option linter.unusedSimpArgs false
namespace Go.Proofs.Ytnmcohdlogepdaa
open Go.RowKit
def ptCells : List Pt → List Value
  | [] => []
  | p :: l => .int .i64 p.f :: .int .i64 p.s :: .int .i64 p.o :: ptCells l
theorem ptCells_len : ∀ l : List Pt, (ptCells l).length = l.length * 3
  | [] => rfl
  | p :: l => by simp only [ptCells, List.length_cons, ptCells_len l]; omega
theorem ptCells_append : ∀ a b : List Pt, ptCells (a ++ b) = ptCells a ++ ptCells b
  | [], _ => rfl
  | p :: l, b => by simp [ptCells, ptCells_append l b]
theorem ptCells_one : ∀ (l : List Pt), ∀ u ∈ ptCells l, u.oneCell' = true
  | [], u, h => by cases h
  | p :: l, u, h => by
    simp only [ptCells, List.mem_cons] at h
    rcases h with rfl | rfl | rfl | h
    · rfl
    · rfl
    · rfl
    · exact ptCells_one l u h
theorem ptCells_at : ∀ (l : List Pt) (i : Nat) (hi : i < l.length), (ptCells l)[i * 3]? = some (.int .i64 l[i].f) ∧ (ptCells l)[i * 3 + 1]? = some (.int .i64 l[i].s) ∧ (ptCells l)[i * 3 + 2]? = some (.int .i64 l[i].o)
  | [], i, hi => by simp at hi
  | p :: l, 0, _ => ⟨rfl, rfl, rfl⟩
  | p :: l, i + 1, hi => by
    obtain ⟨h0, h1, h2⟩ := ptCells_at l i (by simpa using hi)
    have e : (i + 1) * 3 = i * 3 + 1 + 1 + 1 := by omega
    have e1 : (i + 1) * 3 + 1 = i * 3 + 1 + 1 + 1 + 1 := by omega
    have e2 : (i + 1) * 3 + 2 = i * 3 + 2 + 1 + 1 + 1 := by omega
    rw [e1, e2, e]
    simp only [ptCells, List.getElem?_cons_succ, List.getElem_cons_succ]
    exact ⟨h0, h1, h2⟩
theorem addM (b off k : Nat) : (⟨b, off, none⟩ : Addr).add k = ⟨b, off + k, none⟩ := by simp [Addr.add]
theorem pt_reads {w : World} {A : Option Addr} {l : List Pt} {n : Nat} (hn : n = l.length) (h : PtL w w.heap.size A l) : Reads w w.heap.size 3 A n (ptCells l) := by
  subst hn
  refine ⟨ptCells_len l, fun h0 => ?_⟩
  obtain ⟨b, off, rfl, hb, hc⟩ := h h0
  refine ⟨_, rfl, hb, fun j u hu => ?_⟩
  have hj : j < l.length * 3 := by
    rw [← ptCells_len]
    exact (List.getElem?_eq_some_iff.1 hu).1
  obtain ⟨i, r, hr, rfl⟩ : ∃ i r, r < 3 ∧ j = i * 3 + r := ⟨j / 3, j % 3, by omega, by omega⟩
  obtain ⟨h0, h1, h2⟩ := ptCells_at l i (by omega)
  obtain ⟨k0, k1, k2⟩ := hc i (by omega)
  have ea : ∀ k, (⟨b, off, none⟩ : Addr).add k = ⟨b, off + k, none⟩ := fun k => by simp [Addr.add]
  rw [ea]
  have h3 : r = 0 ∨ r = 1 ∨ r = 2 := by omega
  rcases h3 with rfl | rfl | rfl
  · rw [Nat.add_zero] at hu ⊢; rw [h0] at hu; injection hu with hu; rw [← hu]; exact k0
  · rw [h1] at hu; injection hu with hu; rw [← hu]; exact k1
  · rw [h2] at hu; injection hu with hu; rw [← hu]; exact k2
theorem pt_own {w : World} {base n : Nat} {v : Value} {l : List Pt} {t : TypeId} (hn : n = l.length) (h : w.ownsRow base t 3 v n (ptCells l)) : ∃ A c, v = .slice A l.length c ∧ PtL w w.heap.size A l := by
  subst hn
  have hR := h
  rcases h.2 with ⟨rfl, h0⟩ | ⟨g, cap, cur, rfl, hr⟩
  · have h0' : l.length = 0 := h0
    exact ⟨none, 0, by rw [h0'], fun h => by omega⟩
  · refine ⟨_, _, rfl, fun h0 => ⟨g, 0, rfl, (World.ownsRow.lt hR g rfl).2, fun i hi => ?_⟩⟩
    have hr2 := Reads.of_own hR
    obtain ⟨ad, e, _, hc⟩ := hr2.2 h0
    injection e with e
    subst e
    have ea := fun k => addM g 0 k
    obtain ⟨k0, k1, k2⟩ := ptCells_at l i hi
    have c0 := hc _ _ k0
    have c1 := hc _ _ k1
    have c2 := hc _ _ k2
    rw [ea] at c0 c1 c2
    exact ⟨c0, c1, c2⟩
theorem Try.partEqZ (a b c : Int) (v : Bool) (W : World) (h : decide (a = 0 ∧ b = 0 ∧ c = 0) = v) : Sem.run Try.prog (binOp .eql 27 (.agg #[.int .i64 a, .int .i64 b, .int .i64 c]) (.agg #[.int .i64 0, .int .i64 0, .int .i64 0])) W = .ok (.bool v) W := by
  subst h
  simp [go_sem]
  by_cases h1 : a = 0 <;> by_cases h2 : b = 0 <;> by_cases h3 : c = 0 <;> simp [h1, h2, h3]
theorem pt_new (w : World) (p : Pt) : PtL (w.alloc (.cells #[.int .i64 p.f, .int .i64 p.s, .int .i64 p.o] 27)) (w.alloc (.cells #[.int .i64 p.f, .int .i64 p.s, .int .i64 p.o] 27)).heap.size (some ⟨w.heap.size, 0, none⟩) [p] := fun _ => by
  have h0 := Blk.new w 27 #[.int .i64 p.f, .int .i64 p.s, .int .i64 p.o]
  refine ⟨w.heap.size, 0, rfl, by simp, fun i hi => ?_⟩
  obtain rfl : i = 0 := by simpa using hi
  exact ⟨by rw [h0.cell]; rfl, by rw [h0.cell]; rfl, by rw [h0.cell]; rfl⟩
theorem Try.partInfo : (Try.prog.info? 27).map (fun i => (i.zero, i.size, i.bytes)) = some (some (.agg #[.int .i64 0, .int .i64 0, .int .i64 0]), 3, 24) := by kernel_rfl
theorem Try.partBuild0 (w : World) : Sem.run Try.prog (Instr.build 27 #[]) w = .ok (.agg #[.int .i64 0, .int .i64 0, .int .i64 0]) w := by kernel_rfl
set_option maxRecDepth 100000 in
set_option maxHeartbeats 4000000 in
theorem rmparts_any (m : Mf) (A : Option Addr) (c : Nat) (w : World) (h : MfAt w m A c) : Calls Try.prog 55 #[mfV m A c] w fun e w' => ∃ B d, e = .returned (.slice B m.parts.length d) ∧ Hid (PtL w' w'.heap.size B m.parts) ∧ Below w.heap.size w w' := by
  obtain ⟨i0, hi0, hz0, hz1, hz2⟩ := info_parts Try.partInfo
  obtain ⟨sg, sn⟩ := m
  obtain ⟨f, s, o⟩ := sn
  obtain ⟨n, hn⟩ : ∃ n, n = sg.length := ⟨_, rfl⟩
  have hn1 : n ≤ 1000 := by rw [hn]; exact h.few
  have hb1 : Below w.heap.size w (w.alloc (.cells #[.slice A n c, .int .i64 f, .int .i64 s, .int .i64 o] 29)) := (Below.refl _ _).alloc (Nat.le_refl _) _
  have hR := pt_reads hn (h.up hb1).segs
  obtain ⟨bz, hbz⟩ : ∃ b, decide (f = 0 ∧ s = 0 ∧ o = 0) = b := ⟨_, rfl⟩
  have e27 := fun W => Try.partEqZ f s o bz W hbz
  have z27 := fun W => Try.partBuild0 W
  have a27 := fun w' => Try.partAgg w'
  have s27 := fun w' => Try.partSize w'
  unfold mfV
  simp only
  rw [← hn]
  have HK : Hid (∀ W, Below (w.alloc (.cells #[.slice A n c, .int .i64 f, .int .i64 s, .int .i64 o] 29)).heap.size (w.alloc (.cells #[.slice A n c, .int .i64 f, .int .i64 s, .int .i64 o] 29)) W → W.cell? ⟨w.heap.size, 0, none⟩ = some (.slice A n c) ∧ W.cell? ⟨w.heap.size, 1, none⟩ = some (.int .i64 f) ∧ W.cell? ⟨w.heap.size, 2, none⟩ = some (.int .i64 s) ∧ W.cell? ⟨w.heap.size, 3, none⟩ = some (.int .i64 o)) := fun W hb => man_at w W A n c f s o hb
  have Hn := Lib.hid hn
  have HBz := Lib.hid hbz
  clear h hn hbz
  go_enter Try.func55, Try.ntmps55
  go_upto_region 1 with (fail)
  obtain ⟨w1, hw1⟩ : ∃ w1, w1 = w.alloc (.cells #[.slice A n c, .int .i64 f, .int .i64 s, .int .i64 o] 29) := ⟨_, rfl⟩
  obtain ⟨ga, hga⟩ : ∃ g, g = w.heap.size := ⟨_, rfl⟩
  have HB1 : Hid (Below w.heap.size w w1) := by rw [hw1]; exact hb1
  rw [← hw1, ← hga] at HK
  rw [← hw1] at hR
  rw [← hw1, ← hga]
  have HR := Lib.hid hR
  clear hw1 hga hb1 hR
  obtain ⟨k0, k1, k2, k3⟩ := HK.out w1 (Below.refl _ _)
  obtain ⟨j0, j1, j2, j3⟩ := HK.out (w1.alloc (.cells #[] 27)) ((Below.refl _ _).alloc (Nat.le_refl _) _)
  cases bz with
  | true =>
    go_wp2_with (at_builtin; refine wpList_append_any _ rfl (.tmp 4) (.tmp 6) _ rfl w1.heap.size 27 i0 _ 3 24 Try.underlying25 hi0 hz0 hz1 hz2 rfl (by omega) (.slice (some ⟨w1.heap.size, 0, none⟩) 0 0) 0 [] rfl (World.ownsRow_made w1 #[] 0 (Nat.le_refl _) (by decide) rfl) w1.heap.size A n c (ptCells sg) rfl (HR.out.alloc (Nat.le_refl _) _) (ptCells_one sg) (by simp only [maxLen]; omega) (by omega) (by simp) ?_; intro v5 w5 ho5 hg5 hat5; simp only [Nat.zero_add, List.nil_append] at ho5; have hb5 : Below w1.heap.size w1 w5 := ((Below.refl _ _).alloc (Nat.le_refl _) _).grown hg5 (by simp) (by simp [Value.ownBlock]); have HO5 := Lib.hid ho5; have HB5 := Lib.hid hb5; obtain ⟨q0, q1, q2, q3⟩ := HK.out w5 hb5; clear ho5 hg5 hat5 hb5 k0 k1 k2 k3 j0 j1 j2 j3)
    go_ret
    have hz : f = 0 ∧ s = 0 ∧ o = 0 := of_decide_eq_true HBz.out
    obtain ⟨rfl, rfl, rfl⟩ := hz
    obtain ⟨B, d, rfl, hP⟩ := pt_own Hn.out HO5.out
    exact ⟨B, d, rfl, hP, chainM HB1.out HB5.out⟩
  | false =>
    go_wp2_with (first
      | (at_builtin; refine wpList_append_any _ rfl (.tmp 4) (.tmp 6) _ rfl w1.heap.size 27 i0 _ 3 24 Try.underlying25 hi0 hz0 hz1 hz2 rfl (by omega) (.slice (some ⟨w1.heap.size, 0, none⟩) 0 0) 0 [] rfl (World.ownsRow_made w1 #[] 0 (Nat.le_refl _) (by decide) rfl) w1.heap.size A n c (ptCells sg) rfl (HR.out.alloc (Nat.le_refl _) _) (ptCells_one sg) (by simp only [maxLen]; omega) (by omega) (by simp) ?_; intro v5 w5 ho5 hg5 hat5; simp only [Nat.zero_add, List.nil_append] at ho5; have hb5 : Below w1.heap.size w1 w5 := ((Below.refl _ _).alloc (Nat.le_refl _) _).grown hg5 (by simp) (by simp [Value.ownBlock]); have HO5 := Lib.hid ho5; have HB5 := Lib.hid hb5; obtain ⟨q0, q1, q2, q3⟩ := HK.out w5 hb5; clear ho5 hg5 hat5 hb5 k0 k1 k2 k3 j0 j1 j2 j3)
      | (at_builtin; refine wpList_append_any _ rfl (.tmp 13) (.tmp 16) _ rfl w1.heap.size 27 i0 _ 3 24 Try.underlying25 hi0 hz0 hz1 hz2 rfl (by omega) v5 n (ptCells sg) rfl (HO5.out.alloc _) _ (some ⟨w5.heap.size, 0, none⟩) 1 1 (ptCells [⟨f, s, o⟩]) rfl (pt_reads rfl (pt_new w5 ⟨f, s, o⟩)) (ptCells_one _) (by simp only [maxLen]; omega) (by omega) (by have := HB5.out.size; simp; omega) ?_; intro v6 w6 ho6 hg6 hat6; have hb6 : Below w1.heap.size w1 w6 := (HB5.out.alloc HB5.out.size _).grown hg6 (by have := HB5.out.size; simp; omega) (fun k hk => (HO5.out.lt k hk).1); have HO6 := Lib.hid ho6; have HB6 := Lib.hid hb6; clear ho6 hg6 hat6 hb6 q0 q1 q2 q3))
    go_ret
    have hz : ¬ (f = 0 ∧ s = 0 ∧ o = 0) := of_decide_eq_false HBz.out
    have hne : (⟨f, s, o⟩ : Pt) ≠ Pt.z := fun e => hz (by simpa [Pt.z] using e)
    have hp : (⟨sg, ⟨f, s, o⟩⟩ : Mf).parts = sg ++ [⟨f, s, o⟩] := by unfold Mf.parts; rw [if_neg hne]
    rw [hp]
    have h6 := HO6.out
    rw [← ptCells_append] at h6
    obtain ⟨B, d, rfl, hP⟩ := pt_own (by rw [Hn.out]; simp) h6
    exact ⟨B, d, rfl, hP, chainM HB1.out HB6.out⟩
end Go.Proofs.Ytnmcohdlogepdaa
end
section
set_option linter.unusedVariables false
set_option linter.unusedSimpArgs false
namespace Go.Proofs.Ytnmcohdlogepdaa
open Go.RowKit
set_option maxHeartbeats 1000000 in
theorem num_any (g : Nat) (st : St) (w : World) (h : Cur w g st) :
    Calls Try.prog 39 #[.pointer (some ⟨g, 0, none⟩)] w fun e w' => e = .returned (.int .i64 ((stepNum st).2 : Int)) ∧ Cur w' g (stepNum st).1 ∧ Only w w' g := by
  have hb := bad_any g _ w h
  have hfl := fail_any g _ w h
  rcases st with _ | L
  · have h' := Lib.hid h
    clear h
    go_enter Try.func39, Try.ntmps39
    go_wp2_with (go_at_call 20; refine hb.mono ?_; rintro e w' ⟨rfl, rfl⟩)
    go_ret
    exact ⟨rfl, h'.out, only_refl _ _⟩
  · obtain ⟨A, c, hg, hr, hc, hl⟩ := h
    have hgt := get_any L A c _ w hr hl
    have hc0 : w.cell? ⟨g, 0, none⟩ = some (.slice A L.length c) := (blk_cell hg 0).1
    have hf0 : w.frozen? ⟨g, 0, none⟩ = false := (blk_cell hg 0).2
    have HG := Lib.hid hg
    clear hg
    rcases hs : getL L with _ | ⟨n, k⟩
    · rw [hs] at hgt
      have HS : Hid (stepNum (some L) = (none, 0)) := by show _ = _; simp [stepNum, hs]
      clear hs
      go_enter Try.func39, Try.ntmps39
      go_wp2_with (first
        | (go_at_call 20; refine hb.mono ?_; rintro e w' ⟨rfl, rfl⟩)
        | (go_at_call 53; refine hgt.mono ?_; rintro e w' ⟨rfl, rfl⟩)
        | (go_at_call 40; refine hfl.mono ?_; rintro e w' ⟨rfl, hcur, honly, hsz⟩))
      go_ret
      rw [HS.out]
      exact ⟨rfl, hcur, honly⟩
    · rw [hs] at hgt
      have hkl := (getL_some L n k hs).2.2.1
      have HS : Hid (stepNum (some L) = (some (L.drop k), n)) := by show _ = _; simp [stepNum, hs]
      clear hs
      go_enter Try.func39, Try.ntmps39
      go_wp2_with (first
        | (go_at_call 20; refine hb.mono ?_; rintro e w' ⟨rfl, rfl⟩)
        | (go_at_call 53; refine hgt.mono ?_; rintro e w' ⟨rfl, rfl⟩))
      all_goals
        go_ret
        rw [HS.out]
        exact ⟨rfl, cur_cut HG hr hc hl hkl _ _ (fun hx => by first | rfl | (exact absurd hx (by assumption))) (fun hx => by first | rfl | (exact absurd (by assumption) hx)) (by omega), only_set _ _ _ _⟩
set_option maxHeartbeats 1000000 in
theorem ctext_any (g : Nat) (st : St) (w : World) (h : Cur w g st) :
    Calls Try.prog 16 #[.pointer (some ⟨g, 0, none⟩)] w (GivesCur g (stepText st) w) := by
  have hnum := num_any g st w h
  obtain ⟨r, hr⟩ : ∃ r, r = stepNum st := ⟨_, rfl⟩
  rw [← hr] at hnum
  have HS : Hid (stepText st = if 262144 < r.2 then (none, []) else stepTake r.2 r.1) := by show _ = _; rw [hr]; rfl
  clear hr h
  obtain ⟨st', n⟩ := r
  by_cases hn : 262144 < n
  · go_enter Try.func16, Try.ntmps16
    go_wp2_with (first
      | (go_at_call 39; refine hnum.mono ?_; rintro e w1 ⟨rfl, hcur, honly⟩)
      | (go_at_call 40; refine (fail_any g _ _ hcur).mono ?_; rintro e w2 ⟨rfl, hcur2, honly2, hsz⟩)
      | (go_at_call 41; refine (take_any g _ _ _ hcur2).mono ?_; rintro e w3 ⟨A, c, rfl, hrb, hcur3, honly3⟩))
    go_ret
    rw [HS.out, if_pos hn]
    exact ⟨A, c, rfl, hrb, hcur3, only_trans honly (only_trans honly2 honly3)⟩
  · go_enter Try.func16, Try.ntmps16
    go_wp2_with (first
      | (go_at_call 39; refine hnum.mono ?_; rintro e w1 ⟨rfl, hcur, honly⟩)
      | (go_at_call 41; refine (take_any g _ _ _ hcur).mono ?_; rintro e w3 ⟨A, c, rfl, hrb, hcur3, honly3⟩))
    go_ret
    rw [HS.out, if_neg hn]
    exact ⟨A, c, rfl, hrb, hcur3, only_trans honly honly3⟩
end Go.Proofs.Ytnmcohdlogepdaa
end
section
set_option linter.unusedVariables false
namespace Go.Proofs.Ytnmcohdlogepdaa
def stepPt (st : St) : St × Pt := ((stepNum (stepNum (stepNum st).1).1).1, ⟨((stepNum st).2 : Int), ((stepNum (stepNum st).1).2 : Int), ((stepNum (stepNum (stepNum st).1).1).2 : Int)⟩)
def takeN (st : St) : Nat → St × List Pt
  | 0 => (st, [])
  | k + 1 => ((stepPt (takeN st k).1).1, (takeN st k).2 ++ [(stepPt (takeN st k).1).2])
theorem takeN_len (st : St) : ∀ k, (takeN st k).2.length = k
  | 0 => rfl
  | k + 1 => by rw [takeN, List.length_append, takeN_len st k]; rfl
theorem takeN_front (st : St) : ∀ k, takeN st (k + 1) = ((takeN (stepPt st).1 k).1, (stepPt st).2 :: (takeN (stepPt st).1 k).2)
  | 0 => rfl
  | k + 1 => by
    have ih := takeN_front st k
    rw [takeN, ih]
    rfl
def procM (own : List UInt8) : St × Mf :=
  let d := stepNum (stepText (some own)).1
  let t := takeN d.1 (min d.2 9)
  let h := stepNum t.1
  if h.2 = 1 then ((stepPt h.1).1, ⟨t.2, (stepPt h.1).2⟩) else (h.1, ⟨t.2, Pt.z⟩)
theorem step_put (n : Nat) (rest : List UInt8) (h : n ≤ 2147483647) : stepNum (some (putL n ++ rest)) = (some rest, n) := by
  have h1 := nextN_put n rest h
  unfold nextN at h1
  unfold stepNum
  cases hg : getL (putL n ++ rest) with
  | none => rw [hg] at h1; cases h1
  | some x =>
    rw [hg] at h1
    simp only [Option.map_some, Option.some.injEq, Prod.mk.injEq] at h1
    obtain ⟨e1, e2⟩ := h1
    obtain ⟨a, k⟩ := x
    simp only [hg]
    rw [show a = n from e1, e2]
theorem step_one {p : Pt} (h : p.ok = true) (rest : List UInt8) : stepPt (some (p.one ++ rest)) = (some rest, p) := by
  have hp := Pt.ok_iff.1 h
  have e : p.one ++ rest = putL p.f.toNat ++ (putL p.s.toNat ++ (putL p.o.toNat ++ rest)) := by simp [Pt.one]
  unfold stepPt
  rw [e, step_put _ _ (by omega)]
  simp only []
  rw [step_put _ _ (by omega)]
  simp only []
  rw [step_put _ _ (by omega)]
  simp only [Prod.mk.injEq, true_and]
  cases p with
  | mk a b c =>
    simp only [Pt.mk.injEq]
    simp only at hp
    omega
theorem takeN_ones : ∀ (l : List Pt) (rest : List UInt8), (∀ p ∈ l, p.ok = true) → takeN (some (onesL l ++ rest)) l.length = (some rest, l)
  | [], rest, _ => rfl
  | p :: l, rest, h => by
    have ih := takeN_ones l rest fun q hq => h q (List.mem_cons_of_mem _ hq)
    have e : onesL (p :: l) ++ rest = p.one ++ (onesL l ++ rest) := by
      show (p.one ++ onesL l) ++ rest = _
      rw [List.append_assoc]
    rw [List.length_cons, takeN_front, e, step_one (h p (List.mem_cons_self)) _]
    simp only []
    rw [ih]
theorem text_man (rest : List UInt8) : stepText (some ([3, 109, 97, 110] ++ rest)) = (some rest, [109, 97, 110]) := by
  have e : ([3, 109, 97, 110] : List UInt8) ++ rest = putL 3 ++ ([109, 97, 110] ++ rest) := by rw [putL_small 3 (by omega)]; rfl
  unfold stepText
  rw [e, step_put 3 _ (by omega)]
  rw [if_neg (by show ¬ 262144 < 3; omega)]
  show stepTake ((3 : Nat) : Int) (some ([109, 97, 110] ++ rest)) = _
  simp only [stepTake]
  rw [if_neg (by simp; omega)]
  rfl
theorem proc_own {m : Mf} (h : m.check = 0) : procM m.own = (some [], m) := by
  obtain ⟨h8, hok, _⟩ := Mf.check_ok h
  have e : m.own = [3, 109, 97, 110] ++ (UInt8.ofNat m.segs.length :: (onesL m.segs ++ m.tail)) := rfl
  have e1 : stepNum (stepText (some m.own)).1 = (some (onesL m.segs ++ m.tail), m.segs.length) := by
    rw [e, text_man]
    show stepNum (some (UInt8.ofNat m.segs.length :: (onesL m.segs ++ m.tail))) = _
    rw [putL_ofNat _ (by omega), step_put _ _ (by omega)]
  unfold procM
  rw [e1]
  simp only []
  rw [Nat.min_eq_left (by omega), takeN_ones m.segs m.tail fun p hp => hok p (Mf.segs_parts hp)]
  simp only []
  unfold Mf.tail
  by_cases hz : m.snap = Pt.z
  · rw [if_pos hz]
    have e2 : stepNum (some [0]) = (some [], 0) := by
      have := step_put 0 [] (by omega)
      rwa [List.append_nil, putL_small 0 (by omega)] at this
    rw [e2]
    rw [if_neg (by show ¬ (0 : Nat) = 1; omega)]
    rw [← hz]
  · rw [if_neg hz]
    have e2 : stepNum (some (1 :: m.snap.one)) = (some m.snap.one, 1) := by
      have := step_put 1 m.snap.one (by omega)
      rwa [putL_small 1 (by omega)] at this
    have e3 := step_one (hok _ (Mf.snap_parts hz)) []
    rw [List.append_nil] at e3
    rw [e2]
    rw [if_pos rfl]
    simp only []
    rw [e3]
theorem get_proc {b own : List UInt8} (h : openL b = some own) : Mf.get b = if (procM own).1.isSome = true ∧ (procM own).2.check = 0 ∧ sealL (procM own).2.own = b then ((procM own).2, 0) else (Mf.zero, 5) := by
  by_cases hc : (procM own).1.isSome = true ∧ (procM own).2.check = 0 ∧ sealL (procM own).2.own = b
  · rw [if_pos hc]
    have h1 := Mf.get_put hc.2.1
    unfold Mf.put at h1
    rw [if_pos hc.2.1] at h1
    simp only [] at h1
    rwa [hc.2.2] at h1
  · rw [if_neg hc]
    rcases Mf.get_cases b with ⟨h1, h2⟩ | ⟨h1, h2⟩
    · exfalso
      have h3 := Mf.get_check b
      unfold Mf.put at h2
      rw [if_pos h3] at h2
      simp only [Prod.mk.injEq, and_true] at h2
      have h4 := open_seal (Mf.get b).1.own
      rw [h2, h] at h4
      injection h4 with h4
      have h5 := proc_own h3
      rw [← h4] at h5
      refine hc ⟨by rw [h5]; rfl, by rw [h5]; exact h3, ?_⟩
      rw [h5]
      exact h2
    · unfold Mf.get at h1 ⊢
      rw [h] at h1 ⊢
      simp only [] at h1 ⊢
      cases ht : Mf.tells (own.drop 4) with
      | none => rfl
      | some m =>
        rw [ht] at h1
        simp only [] at h1 ⊢
        split
        · rename_i h6
          rw [if_pos h6] at h1
          exact absurd rfl h1
        · rfl
end Go.Proofs.Ytnmcohdlogepdaa
end
