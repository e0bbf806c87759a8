/- Lemmas under the proofs of this place: ManPGetM. No statement is proved here. -/
import Derived.Test.YtnmcohdlogepdaaBu20
import Derived.Test.YtnmcohdlogepdaaBu22
set_option linter.unusedVariables false
namespace Go.Proofs.Ytnmcohdlogepdaa
theorem step_some {st : St} {r : List UInt8} {n : Nat} (h : stepNum st = (some r, n)) : st = some (putL n ++ r) := by
  cases st with
  | none => simp [stepNum] at h
  | some L =>
    simp only [stepNum] at h
    cases hg : getL L with
    | none => rw [hg] at h; simp at h
    | some x =>
      obtain ⟨a, k⟩ := x
      rw [hg] at h
      simp only [Prod.mk.injEq, Option.some.injEq] at h
      obtain ⟨h1, h2⟩ := h
      have h3 : nextN L = some (n, r) := by unfold nextN; rw [hg]; simp [h1, h2]
      rw [(nextN_some h3).2]
theorem stepPt_some {st : St} {r : List UInt8} {p : Pt} (h : stepPt st = (some r, p)) : st = some (p.one ++ r) := by
  obtain ⟨sa, na, ha⟩ : ∃ s n, stepNum st = (s, n) := ⟨_, _, rfl⟩
  obtain ⟨sb, nb, hb⟩ : ∃ s n, stepNum sa = (s, n) := ⟨_, _, rfl⟩
  obtain ⟨sc, nc, hc⟩ : ∃ s n, stepNum sb = (s, n) := ⟨_, _, rfl⟩
  unfold stepPt at h
  rw [ha] at h
  simp only [] at h
  rw [hb] at h
  simp only [] at h
  rw [hc] at h
  simp only [Prod.mk.injEq] at h
  obtain ⟨rfl, rfl⟩ := h
  rw [step_some hc] at hb
  rw [step_some hb] at ha
  rw [step_some ha]
  simp [Pt.one]
theorem takeN_some : ∀ (k : Nat) (st : St) (r : List UInt8) (l : List Pt), takeN st k = (some r, l) → st = some (onesL l ++ r)
  | 0, st, r, l, h => by
    simp only [takeN, Prod.mk.injEq] at h
    obtain ⟨rfl, rfl⟩ := h
    rfl
  | k + 1, st, r, l, h => by
    obtain ⟨s, l', hs⟩ : ∃ s l', takeN st k = (s, l') := ⟨_, _, rfl⟩
    rw [takeN, hs] at h
    simp only [Prod.mk.injEq] at h
    have hq : stepPt s = (some r, (stepPt s).2) := Prod.ext h.1 rfl
    rw [stepPt_some hq] at hs
    rw [takeN_some k st _ _ hs, ← h.2, onesL_append]
    simp [onesL]
theorem takeP_some {most : Nat} {st : St} {r : List UInt8} {l : List Pt} (h : takeP most st = (some r, l, true)) : st = some (putL l.length ++ (onesL l ++ r)) ∧ l.length ≤ most := by
  obtain ⟨s, n, hs⟩ : ∃ s n, stepNum st = (s, n) := ⟨_, _, rfl⟩
  unfold takeP at h
  rw [hs] at h
  by_cases hm : most < n
  · rw [if_pos hm] at h
    simp at h
  · rw [if_neg hm] at h
    simp only [Prod.mk.injEq, and_true] at h
    have hq : takeN s n = (some r, l) := Prod.ext h.1 h.2
    have hl : l.length = n := by rw [← h.2, takeN_len]
    rw [takeN_some _ _ _ _ hq] at hs
    rw [step_some hs, hl]
    exact ⟨rfl, by omega⟩
theorem text_some {st : St} {r : List UInt8} (h : stepText st = (some r, [109, 97, 110])) : st = some ([3, 109, 97, 110] ++ r) := by
  obtain ⟨s, n, hs⟩ : ∃ s n, stepNum st = (s, n) := ⟨_, _, rfl⟩
  unfold stepText at h
  rw [hs] at h
  by_cases hm : 262144 < n
  · rw [if_pos hm] at h
    simp at h
  · rw [if_neg hm] at h
    cases s with
    | none => simp [stepTake] at h
    | some L =>
      simp only [stepTake] at h
      split at h
      · simp at h
      · rename_i hn
        simp only [Prod.mk.injEq, Option.some.injEq, Int.toNat_natCast] at h
        have h3 : n = 3 := by
          have := congrArg List.length h.2
          rw [List.length_take] at this
          simp at this
          omega
        have hL : L = [109, 97, 110] ++ r := by rw [← h.1, ← h.2, List.take_append_drop]
        rw [step_some hs, hL, h3, putL_small 3 (by omega)]
        rfl
def procP (own : List UInt8) : Bool × Mf :=
  let x := stepText (some own)
  let y := takeP 8 x.1
  let z := takeP 1 y.1
  (decide (x.2 = [109, 97, 110]) && (y.2.2 && (z.2.2 && (decide (chkL (y.2.1 ++ z.2.1) = 0) && (z.1.isSome && decide (leftN z.1 = 0))))), ⟨y.2.1, z.2.1.headD Pt.z⟩)
theorem takeP_put (most : Nat) (l : List Pt) (rest : List UInt8) (h : ∀ p ∈ l, p.ok = true) (hl : l.length ≤ most) (h9 : l.length ≤ 100) : takeP most (some (putL l.length ++ (onesL l ++ rest))) = (some rest, l, true) := by
  unfold takeP
  rw [step_put _ _ (by omega), if_neg (by show ¬ most < l.length; omega)]
  simp only []
  rw [takeN_ones l rest h]
theorem Mf.snaps_head (m : Mf) : m.snaps.headD Pt.z = m.snap := by
  unfold Mf.snaps
  split
  · rename_i h
    rw [h]; rfl
  · rfl
theorem procP_own {m : Mf} (h : m.check = 0) : procP m.own = (true, m) := by
  obtain ⟨h8, hok, _⟩ := Mf.check_ok h
  have e := m.own_eq h
  rw [List.append_assoc, List.append_assoc] at e
  have hs : ∀ p ∈ m.snaps, p.ok = true := fun p hp => hok p (by rw [m.parts_eq]; exact List.mem_append_right _ hp)
  have hg : ∀ p ∈ m.segs, p.ok = true := fun p hp => hok p (Mf.segs_parts hp)
  have hz := takeP_put 1 m.snaps [] hs m.snaps_len (by have := m.snaps_len; omega)
  rw [List.append_nil] at hz
  unfold procP
  rw [e, text_man]
  simp only []
  rw [takeP_put 8 m.segs _ hg h8 (by omega)]
  simp only []
  rw [hz]
  have hc : chkL (m.segs ++ m.snaps) = 0 := by
    rw [m.check_eq, if_neg (by omega), m.parts_eq] at h
    exact h
  simp only [m.snaps_head, hc]
  rfl
theorem procP_yes {own : List UInt8} (h : (procP own).1 = true) : (procP own).2.check = 0 ∧ (procP own).2.own = own := by
  obtain ⟨x1, x2, hx⟩ : ∃ a b, stepText (some own) = (a, b) := ⟨_, _, rfl⟩
  obtain ⟨y1, y2, y3, hy⟩ : ∃ a b c, takeP 8 x1 = (a, b, c) := ⟨_, _, _, rfl⟩
  obtain ⟨z1, z2, z3, hz⟩ : ∃ a b c, takeP 1 y1 = (a, b, c) := ⟨_, _, _, rfl⟩
  have e : procP own = (decide (x2 = [109, 97, 110]) && (y3 && (z3 && (decide (chkL (y2 ++ z2) = 0) && (z1.isSome && decide (leftN z1 = 0))))), ⟨y2, z2.headD Pt.z⟩) := by
    unfold procP
    rw [hx]
    simp only []
    rw [hy]
    simp only []
    rw [hz]
  rw [e] at h ⊢
  simp only [Bool.and_eq_true, decide_eq_true_eq] at h
  obtain ⟨h1, h2, h3, h4, h5, h6⟩ := h
  subst h1 h2 h3
  cases z1 with
  | none => simp at h5
  | some r =>
    have hr : r = [] := List.length_eq_zero_iff.1 h6
    subst hr
    obtain ⟨k1, k2⟩ := takeP_some hz
    rw [k1] at hy
    obtain ⟨j1, j2⟩ := takeP_some hy
    rw [j1] at hx
    have i1 := text_some hx
    injection i1 with i1
    have hsn : (⟨y2, z2.headD Pt.z⟩ : Mf).snaps = z2 := by
      unfold Mf.snaps
      simp only
      match z2, k2, h4 with
      | [], _, _ => rw [List.headD_nil, if_pos rfl]
      | [p], _, h4 =>
        rw [List.headD_cons, if_neg]
        intro hp
        rw [hp] at h4
        have : chkL (y2 ++ [Pt.z]) = 1 := chkL_arg y2.length (by simp) (by simp; decide)
        rw [this] at h4
        cases h4
      | p :: q :: l, k2, _ => simp at k2
    have hck : (⟨y2, z2.headD Pt.z⟩ : Mf).check = 0 := by
      rw [Mf.check_eq, if_neg (by simp only; omega), Mf.parts_eq, hsn]
      exact h4
    refine ⟨hck, ?_⟩
    rw [Mf.own_eq _ hck, hsn, i1]
    simp
theorem get_procP {b own : List UInt8} (h : openL b = some own) : Mf.get b = if (procP own).1 = true then ((procP own).2, 0) else (Mf.zero, 5) := by
  by_cases hc : (procP own).1 = true
  · rw [if_pos hc]
    obtain ⟨h1, h2⟩ := procP_yes hc
    unfold Mf.get
    rw [h]
    have e : own.drop 4 = UInt8.ofNat (procP own).2.segs.length :: (onesL (procP own).2.segs ++ (procP own).2.tail) := by
      have e1 : (procP own).2.own.drop 4 = UInt8.ofNat (procP own).2.segs.length :: (onesL (procP own).2.segs ++ (procP own).2.tail) := rfl
      rw [h2] at e1
      exact e1
    simp only []
    rw [e, Mf.tells_own h1]
    simp only []
    rw [if_pos ⟨h1, h2⟩]
  · rw [if_neg hc]
    rcases Mf.get_cases b with ⟨h1, h2⟩ | ⟨h1, h2⟩
    · exfalso
      have h3 := Mf.get_check b
      unfold Mf.put at h2
      rw [if_pos h3] at h2
      simp only [Prod.mk.injEq, and_true] at h2
      have h4 := open_seal (Mf.get b).1.own
      rw [h2, h] at h4
      injection h4 with h4
      have h5 := procP_own h3
      rw [← h4] at h5
      exact hc (by rw [h5])
    · unfold Mf.get at h1 ⊢
      rw [h] at h1 ⊢
      simp only [] at h1 ⊢
      cases ht : Mf.tells (own.drop 4) with
      | none => rfl
      | some m =>
        rw [ht] at h1
        simp only [] at h1 ⊢
        split
        · rename_i h6
          rw [if_pos h6] at h1
          exact absurd rfl h1
        · rfl
end Go.Proofs.Ytnmcohdlogepdaa
