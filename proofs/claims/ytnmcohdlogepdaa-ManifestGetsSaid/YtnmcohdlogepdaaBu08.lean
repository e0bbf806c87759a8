/- Lemmas under the proofs of this place: ManRPart, Gen7, CurT. No statement is proved here. -/
import Derived.Test.YtnmcohdlogepdaaBu05
import Derived.Test.YtnmcohdlogepdaaBu03
section
set_option linter.unusedVariables false
set_option linter.unusedSimpArgs false
namespace Go.Proofs.Ytnmcohdlogepdaa
open Go.RowKit
theorem Try.partAgg (w : World) : (isAgg 27).run Try.prog w = .ok true w := by kernel_rfl
theorem Try.partSize (w : World) : (sizeOf 27).run Try.prog w = .ok 3 w := by kernel_rfl
set_option maxHeartbeats 4000000 in
theorem rpart_any (f s o : Int) (w : World) : Calls Try.prog 56 #[.agg #[.int .i64 f, .int .i64 s, .int .i64 o]] w fun e w' => e = .returned (.bool (Pt.ok ⟨f, s, o⟩)) ∧ Below w.heap.size w w' := by
  have hb : Below w.heap.size w (w.alloc (.cells #[.int .i64 f, .int .i64 s, .int .i64 o] 27)) := (Below.refl _ _).alloc (Nat.le_refl _) _
  unfold Pt.ok
  obtain ⟨b1, h1⟩ : ∃ b, decide (1 ≤ f) = b := ⟨_, rfl⟩
  obtain ⟨b2, h2⟩ : ∃ b, decide (f ≤ 65535) = b := ⟨_, rfl⟩
  obtain ⟨b3, h3⟩ : ∃ b, decide (1 ≤ s) = b := ⟨_, rfl⟩
  obtain ⟨b4, h4⟩ : ∃ b, decide (s ≤ 262144) = b := ⟨_, rfl⟩
  obtain ⟨b5, h5⟩ : ∃ b, decide (1 ≤ o) = b := ⟨_, rfl⟩
  obtain ⟨b6, h6⟩ : ∃ b, decide (o ≤ 2147483647) = b := ⟨_, rfl⟩
  have g1 : decide (f ≥ 1) = b1 := h1
  have g3 : decide (s ≥ 1) = b3 := h3
  have g5 : decide (o ≥ 1) = b5 := h5
  simp only [h1, h2, h3, h4, h5, h6]
  cases b1
  · go_enter Try.func56, Try.ntmps56
    go_wp2
    go_ret
    exact ⟨rfl, hb⟩
  cases b2
  · go_enter Try.func56, Try.ntmps56
    go_wp2
    go_ret
    exact ⟨rfl, hb⟩
  cases b3
  · go_enter Try.func56, Try.ntmps56
    go_wp2
    go_ret
    exact ⟨rfl, hb⟩
  cases b4
  · go_enter Try.func56, Try.ntmps56
    go_wp2
    go_ret
    exact ⟨rfl, hb⟩
  cases b5
  · go_enter Try.func56, Try.ntmps56
    go_wp2
    go_ret
    exact ⟨rfl, hb⟩
  · go_enter Try.func56, Try.ntmps56
    go_wp2
    go_ret
    exact ⟨by simp, hb⟩
end Go.Proofs.Ytnmcohdlogepdaa
end
section
set_option linter.unusedVariables false
namespace Go.Proofs.Ytnmcohdlogepdaa
open Go.RowKit
theorem rb_up7 {w w' : World} {A : Option Addr} {L : List UInt8} (h : RB w w.heap.size A L) (hb : Below w.heap.size w w') : RB w' w'.heap.size A L := (h.below hb).more hb.size
def RBc (w : World) (A : Option Addr) (L : List UInt8) (c : Nat) : Prop := RB w w.heap.size A L ∧ L.length ≤ c ∧ c ≤ 9223372036854775807
theorem own_cap7 {w : World} {base c : Nat} {A : Option Addr} {L : List UInt8} (h : Own w base A L c) : RBc w A L c := by
  refine ⟨own_rb h, ?_⟩
  rcases h.2 with ⟨h1, h2⟩ | ⟨g, cap, cur, h1, _, _, h3, h4, _⟩
  · simp only [Value.slice.injEq] at h1
    omega
  · simp only [Value.slice.injEq] at h1
    unfold maxLen at h4
    omega
theorem own_slice7 {w : World} {base : Nat} {e : TypeId} {size n : Nat} {v : Value} {xs : List Value} (h : w.ownsRow base e size v n xs) : ∃ A c, v = .slice A n c := by
  rcases h.2 with ⟨rfl, h0⟩ | ⟨g, cap, cur, rfl, h2, _⟩
  · exact ⟨none, 0, by rw [h0]⟩
  · exact ⟨_, _, rfl⟩
theorem append_far {ops : Array Oper} {rest : List Oper} {o : Oper} {a : Act} {Q : Exit → Act → World → Prop} (hgd : o.guard = none) (s x : Operand)
    (ho : o.op = .call { callee := .builtin .append, args := #[s, x], argTypes := #[22, 22] })
    {B B2 : Nat} {w0 wr : World} {v : Value} {P L : List UInt8} {A : Option Addr} {n m c k : Nat} (hs : a.eval s = v) (hown : wr.ownsRow B 5 1 v n (cells P)) (hb : Below B w0 wr) (hB : B ≤ w0.heap.size)
    (hx : a.eval x = .slice A m c) (hr : RB wr B2 A L) (hm : m = L.length) (hlen : n + m ≤ 1048576) (hk : n + m = k)
    (h : ∀ A' c' w1, w1.ownsRow B 5 1 (.slice A' k c') k (cells (P ++ L)) → Below B w0 w1 → wr.heap.size ≤ w1.heap.size → (∀ p u, wr.cell? p = some u → v.ownBlock ≠ some p.block → w1.cell? p = some u) →
      (∀ g, g < wr.heap.size → v.ownBlock ≠ some g → (Value.slice A' k c').ownBlock ≠ some g) → wpList Try.prog ops Q rest (a.put o.dst (.slice A' k c')) w1) :
    wpList Try.prog ops Q (o :: rest) a wr := by
  obtain ⟨i0, hi0, hz0, hz1, hz2⟩ := info_parts Try.info5
  subst hk hm
  refine wpList_append_any wr hgd s x 22 ho B 5 i0 _ 1 1 Try.underlying22 hi0 hz0 hz1 hz2 rfl (by omega) v n (cells P) hs hown B2 A L.length c (cells L) hx hr (cells_one _) (by unfold maxLen; omega) (by omega) (Nat.le_trans hB hb.size) fun v' w' ho' hg hat => ?_
  obtain ⟨A', c', rfl⟩ := own_form ho'
  rw [cells_append] at h
  refine h A' c' w' ho' (hb.grown hg (Nat.le_trans hB hb.size) fun j hj => (hown.lt j hj).1) hg.size (fun p u hp hne => hg.cell hp (fun e => hne e.symm)) (fun g hlt hne he => ?_)
  rcases hat with h1 | h1
  · exact hne (h1 ▸ he)
  · rw [he] at h1
    injection h1 with h1
    omega
theorem append_rb {ops : Array Oper} {rest : List Oper} {o : Oper} {a : Act} {Q : Exit → Act → World → Prop} (hgd : o.guard = none) (s x : Operand)
    (ho : o.op = .call { callee := .builtin .append, args := #[s, x], argTypes := #[22, 22] })
    {B B2 : Nat} {w0 wr : World} {v : Value} {P L : List UInt8} {A : Option Addr} {n m c k : Nat} (hs : a.eval s = v) (hown : wr.ownsRow B 5 1 v n (cells P)) (hb : Below B w0 wr) (hB : B ≤ w0.heap.size)
    (hx : a.eval x = .slice A m c) (hr : RB wr B2 A L) (hm : m = L.length) (hlen : n + m ≤ 1048576) (hk : n + m = k)
    (h : ∀ A' c' w1, w1.ownsRow B 5 1 (.slice A' k c') k (cells (P ++ L)) → Below B w0 w1 → wpList Try.prog ops Q rest (a.put o.dst (.slice A' k c')) w1) :
    wpList Try.prog ops Q (o :: rest) a wr := append_far hgd s x ho hs hown hb hB hx hr hm hlen hk fun A' c' w1 h1 h2 _ _ _ => h A' c' w1 h1 h2
end Go.Proofs.Ytnmcohdlogepdaa
end
section
set_option linter.unusedVariables false
set_option linter.unusedSimpArgs false
namespace Go.Proofs.Ytnmcohdlogepdaa
open Go.RowKit
abbrev St := Option (List UInt8)
def stepTake (n : Int) : St → St × List UInt8
  | none => (none, [])
  | some L => if n < 0 ∨ (L.length : Int) < n then (none, []) else (some (L.drop n.toNat), L.take n.toNat)
theorem cur_cut {w : World} {g : Nat} {A : Option Addr} {L : List UInt8} {c k : Nat} (HG : Hid (w.heap[g]? = some (.cells #[.slice A L.length c, .bool false] 65 (0, 0)))) (hr : RB w w.heap.size A L) (hc : L.length ≤ c) (hl : L.length ≤ 1048576)
    (hk : k ≤ L.length) (A' : Option Addr) (c' : Nat) (h1 : c = k → A' = A) (h2 : c ≠ k → A' = A.map (·.add k)) (hc' : c' = c - k) :
    Cur (w.setCell ⟨g, 0, none⟩ (.slice A' (L.length - k) c')) g (some (L.drop k)) := by
  subst hc'
  have hA : A' = if c = k then A else A.map (·.add (k * 1)) := by
    rw [Nat.mul_one]
    by_cases h : c = k
    · rw [if_pos h]; exact h1 h
    · rw [if_neg h]; exact h2 h
  have hz : ∀ u, (w.setCell ⟨g, 0, none⟩ u).heap.size = w.heap.size := fun u => by simp [World.setCell]
  refine ⟨A', c - k, ?_, ?_, by rw [List.length_drop]; omega, by rw [List.length_drop]; omega⟩
  · rw [List.length_drop]
    exact Blk.set_ HG.out 0 (.slice A' (L.length - k) (c - k))
  · rw [hz, hA]
    exact rb_far (rb_cut hr hk hc) HG.out (cur_cells _ _ _ _) _
def GivesCur (g : Nat) (r : St × List UInt8) (w : World) (e : Ending) (w' : World) : Prop :=
  ∃ A c, e = .returned (.slice A r.2.length c) ∧ RB w' w'.heap.size A r.2 ∧ Cur w' g r.1 ∧ Only w w' g
set_option maxHeartbeats 1000000 in
theorem take_any (g : Nat) (n : Int) (st : St) (w : World) (h : Cur w g st) :
    Calls Try.prog 41 #[.pointer (some ⟨g, 0, none⟩), .int .i64 n] w (GivesCur g (stepTake n st) w) := by
  have hb := bad_any g _ w h
  have hfl := fail_any g _ w h
  rcases st with _ | L
  · have h' := Lib.hid h
    clear h
    go_enter Try.func41, Try.ntmps41
    go_wp2_with (go_at_call 20; refine hb.mono ?_; rintro e w' ⟨rfl, rfl⟩)
    go_ret
    exact ⟨none, 0, rfl, RB.none_ _ _, h'.out, only_refl _ _⟩
  · obtain ⟨A, c, hg, hr, hc, hl⟩ := h
    have hc0 : w.cell? ⟨g, 0, none⟩ = some (.slice A L.length c) := (blk_cell hg 0).1
    have hf0 : w.frozen? ⟨g, 0, none⟩ = false := (blk_cell hg 0).2
    have HG := Lib.hid hg
    clear hg
    by_cases hn : n < 0 ∨ (L.length : Int) < n
    · have HS : Hid (stepTake n (some L) = (none, [])) := by show _ = _; simp only [stepTake]; rw [if_pos hn]
      rcases hn with hn | hn
      · have hd : decide (n < 0) = true := by simp [hn]
        go_enter Try.func41, Try.ntmps41
        go_wp2_with (first
          | (go_at_call 20; refine hb.mono ?_; rintro e w' ⟨rfl, rfl⟩)
          | (go_at_call 40; refine hfl.mono ?_; rintro e w' ⟨rfl, hcur, honly, hsz⟩))
        go_ret
        rw [HS.out]
        exact ⟨none, 0, rfl, RB.none_ _ _, hcur, honly⟩
      · have hd : decide (n < 0) = false := by simp; omega
        have hd2 : decide ((L.length : Int) < n) = true := by simp [hn]
        go_enter Try.func41, Try.ntmps41
        go_wp2_with (first
          | (go_at_call 20; refine hb.mono ?_; rintro e w' ⟨rfl, rfl⟩)
          | (go_at_call 40; refine hfl.mono ?_; rintro e w' ⟨rfl, hcur, honly, hsz⟩))
        go_ret
        rw [HS.out]
        exact ⟨none, 0, rfl, RB.none_ _ _, hcur, honly⟩
    · have hd : decide (n < 0) = false := by simp; omega
      have hd2 : decide ((L.length : Int) < n) = false := by simp; omega
      obtain ⟨k, rfl⟩ : ∃ k : Nat, n = (k : Int) := ⟨n.toNat, by omega⟩
      have hkl : k ≤ L.length := by omega
      have HS : Hid (stepTake (k : Int) (some L) = (some (L.drop k), L.take k)) := by show _ = _; simp only [stepTake]; rw [if_neg hn]; simp
      clear hn
      go_enter Try.func41, Try.ntmps41
      have hlt : g < w.heap.size := Blk.lt HG.out
      have HLK : Hid ((L.take k).length = k) := by show _ = _; rw [List.length_take]; omega
      have hrt : RB w w.heap.size A (L.take k) := by
        refine ⟨by rw [cells_length]; simp, fun h0 => ?_⟩
        obtain ⟨ad, e, hb', hcc⟩ := hr.2 (by rw [List.length_take] at h0; omega)
        refine ⟨ad, e, hb', fun j u hu => hcc j u ?_⟩
        rw [← cells_take, List.getElem?_take] at hu
        split at hu
        · exact hu
        · cases hu
      go_wp2_with (first
        | (go_at_call 20; refine hb.mono ?_; rintro e w' ⟨rfl, rfl⟩)
        | (go_at_call 38; refine (copied_any (L.take k) k _ _ _ (by rw [List.length_take]; omega) hrt (by rw [List.length_take]; omega)).mono ?_; rintro e w1 ⟨A1, c1, he1, hown1, hb1⟩; rw [HLK.out] at he1; subst he1; have hc1 := (hb1.cell (p := ⟨g, 0, none⟩) hlt).trans hc0; have hf1 := (hb1.frozen (p := ⟨g, 0, none⟩) hlt).trans hf0))
      all_goals
        have HG1 : Hid (w1.heap[g]? = some (.cells #[.slice A L.length c, .bool false] 65 (0, 0))) := Blk.below HG.out hb1 hlt
        have hr1 : RB w1 w1.heap.size A L := (hr.below hb1).more hb1.size
        have hcur := fun A' c' a b d => cur_cut HG1 hr1 hc hl hkl A' c' a b d
        have ho1 : RB w1 w1.heap.size A1 (L.take k) := own_rb hown1
        go_ret
        rw [HS.out]
        refine ⟨A1, c1, by show _ = Ending.returned (.slice A1 (L.take k).length c1); rw [HLK.out]; rfl, ?_, hcur _ _ (fun hx => by first | rfl | (exact absurd hx (by assumption))) (fun hx => by first | rfl | (exact absurd (by assumption) hx)) (by omega), only_trans (only_below hb1 g) (only_set _ _ _ _)⟩
        have hz : ∀ u, (w1.setCell ⟨g, 0, none⟩ u).heap.size = w1.heap.size := fun u => by simp [World.setCell]
        rw [hz]
        exact rb_far ho1 HG1.out (cur_cells _ _ _ _) _
end Go.Proofs.Ytnmcohdlogepdaa
end
