/- Lemmas under the proofs of this place: Slices, Copy, CurT. No statement is proved here. -/
import Derived.Test.YtghenhacndaelaaBu07
import Derived.Test.YtghenhacndaelaaBu08
import Derived.Test.YtghenhacndaelaaBu05
import Derived.Laws.CopyOwn
set_option linter.unusedSimpArgs false
set_option linter.unusedVariables false
set_option maxRecDepth 100000
set_option maxHeartbeats 16000000
namespace Go.Proofs.Ytghenhacndaelaa
section
open Go.RowKit
theorem sa_all (a off : Nat) (W : World) : (Instr.sliceAt 67 (.pointer (some ⟨a, off, none⟩)) none none none).run Try.prog W = .ok (.slice (some ⟨a, off, none⟩) 256 256) W := by
  have hu : Try.prog.underlying 67 = some (.array (Try.prog.arrayLen 67) (Try.prog.elem 67)) := by kernel_rfl
  have he : Try.prog.elem 67 = 5 := by kernel_rfl
  have hl : Try.prog.arrayLen 67 = 256 := by kernel_rfl
  have hsz : (sizeOf 5).run Try.prog W = .ok 1 W := by kernel_rfl
  rw [run_sliceAt_array_all _ _ _ hu, he, hsz, hl]
  simp only [Result.andThen_ok, slicedAt]
  rw [if_neg (by omega)]
  simp only [Nat.zero_mul, add_at, Nat.add_zero, Nat.sub_zero]
theorem sa_from (a off s : Nat) (i : Int) (hi : i = (s : Int)) (h1 : s < 256) (W : World) : (Instr.sliceAt 67 (.pointer (some ⟨a, off, none⟩)) (some (.int .i64 i)) none none).run Try.prog W = .ok (.slice (some ⟨a, off + s, none⟩) (256 - s) (256 - s)) W := by
  subst hi
  have hu : Try.prog.underlying 67 = some (.array (Try.prog.arrayLen 67) (Try.prog.elem 67)) := by kernel_rfl
  have he : Try.prog.elem 67 = 5 := by kernel_rfl
  have hl : Try.prog.arrayLen 67 = 256 := by kernel_rfl
  have hsz : (sizeOf 5).run Try.prog W = .ok 1 W := by kernel_rfl
  have e : (s : Int).toNat = s := by omega
  rw [run_sliceAt_array_l _ _ _ hu .i64 (s : Int) (by omega) (by rw [hl]; omega), he, hsz, hl]
  simp only [Result.andThen_ok, slicedAt, e]
  rw [if_neg (by omega)]
  simp only [Nat.mul_one, add_at]
end
section
open Go.RowKit
section
variable {P : Program} {w : World} {ops : Array Oper} {o : Oper} {a : Act} {Q : Exit → Act → World → Prop}
theorem wp_copy_foot {K : Act → World → Prop} (d s : Operand) (dT sT : TypeId)
    (ho : o.op = .call { callee := .builtin .copy, args := #[d, s], argTypes := #[dT, sT] }) (elem : TypeId) (hu : P.underlying dT = some (.slice elem)) (hsz : (P.info? elem).map (·.size) = some 1)
    (dp sp : Option Addr) (dLen dCap sLen sCap : Nat) (hd : a.eval d = .slice dp dLen dCap) (hs : a.eval s = .slice sp sLen sCap)
    (g off : Nat) (cur : List Value) (t : TypeId) (hg : Blk w g t cur.toArray) (cs : List Value) (hn : cs.length = Nat.min sLen dLen)
    (hpos : 0 < cs.length → dp = some ⟨g, off, none⟩ ∧ ∃ ad, sp = some ad ∧ ∀ j v, cs[j]? = some v → w.cell? (ad.add j) = some v)
    (hfit : off + cs.length ≤ cur.length) (h1 : ∀ v ∈ cs, v.oneCell' = true)
    (h : ∀ w', Hid (Blk w' g t (splice cur off cs).toArray) → Hid (Turns w w' (fun k => k = g) (fun k => k = g)) → K (a.put o.dst (goInt cs.length)) w') : o.wp P a w K Q := by
  by_cases h0 : cs.length = 0
  · obtain rfl : cs = [] := List.eq_nil_of_length_eq_zero h0
    have hrun := run_copy_none (P := P) w dT sT o.type elem dp sp dLen dCap sLen sCap hu hsz (by simpa using hn.symm)
    unfold Oper.wp
    simp [execOp, ho, resolve, invoke, builtin, hd, hs, hrun, Result.andThen]
    have hk : Blk w g t (splice cur off ([] : List Value)).toArray := by
      have e : splice cur off ([] : List Value) = cur := by simp [splice]
      rw [e]; exact hg
    exact h w hk (Turns.refl _ _)
  · obtain ⟨rfl, ad, rfl, hsrc⟩ := hpos (by omega)
    have hrun := run_copy_row (P := P) w dT sT o.type elem g off dLen dCap ad sLen sCap cur.toArray t cs hu hsz hg hn hsrc (by simpa using hfit) h1
    unfold Oper.wp
    simp [execOp, ho, resolve, invoke, builtin, hd, hs, hrun, Result.andThen]
    exact h _ (show _ = _ by simpa [splice] using setRow_heap w g _ _ t _ hg) (Turns.row (F := fun k => k = g) rfl _)
theorem wpList_copy_foot {rest : List Oper} (hgd : o.guard = none) (d s : Operand) (dT sT : TypeId)
    (ho : o.op = .call { callee := .builtin .copy, args := #[d, s], argTypes := #[dT, sT] }) (elem : TypeId) (hu : P.underlying dT = some (.slice elem)) (hsz : (P.info? elem).map (·.size) = some 1)
    (dp sp : Option Addr) (dLen dCap sLen sCap : Nat) (hd : a.eval d = .slice dp dLen dCap) (hs : a.eval s = .slice sp sLen sCap)
    (g off : Nat) (cur : List Value) (t : TypeId) (hg : Blk w g t cur.toArray) (cs : List Value) (hn : cs.length = Nat.min sLen dLen)
    (hpos : 0 < cs.length → dp = some ⟨g, off, none⟩ ∧ ∃ ad, sp = some ad ∧ ∀ j v, cs[j]? = some v → w.cell? (ad.add j) = some v)
    (hfit : off + cs.length ≤ cur.length) (h1 : ∀ v ∈ cs, v.oneCell' = true)
    (h : ∀ w', Hid (Blk w' g t (splice cur off cs).toArray) → Hid (Turns w w' (fun k => k = g) (fun k => k = g)) → wpList P ops Q rest (a.put o.dst (goInt cs.length)) w') : wpList P ops Q (o :: rest) a w :=
  wpList_plain hgd fun K hK => wp_copy_foot d s dT sT ho elem hu hsz dp sp dLen dCap sLen sCap hd hs g off cur t hg cs hn hpos hfit h1 fun w' h2 h3 => hK _ _ (h w' h2 h3)
theorem step_copy_foot {K : Act → World → Prop} {E : Prop} (hgd : o.guard = none) (d s : Operand) (dT sT : TypeId)
    (ho : o.op = .call { callee := .builtin .copy, args := #[d, s], argTypes := #[dT, sT] }) (elem : TypeId) (hu : P.underlying dT = some (.slice elem)) (hsz : (P.info? elem).map (·.size) = some 1)
    (dp sp : Option Addr) (dLen dCap sLen sCap : Nat) (hd : a.eval d = .slice dp dLen dCap) (hs : a.eval s = .slice sp sLen sCap)
    (g off : Nat) (cur : List Value) (t : TypeId) (hg : Blk w g t cur.toArray) (cs : List Value) (hn : cs.length = Nat.min sLen dLen)
    (hpos : 0 < cs.length → dp = some ⟨g, off, none⟩ ∧ ∃ ad, sp = some ad ∧ ∀ j v, cs[j]? = some v → w.cell? (ad.add j) = some v)
    (hfit : off + cs.length ≤ cur.length) (h1 : ∀ v ∈ cs, v.oneCell' = true)
    (h : ∀ w', Hid (Blk w' g t (splice cur off cs).toArray) → Hid (Turns w w' (fun k => k = g) (fun k => k = g)) → K (a.put o.dst (goInt cs.length)) w') : if Region.wanted o (yielded ops a.tmps) = true then Oper.wp P o a w K Q else E := by
  have hw : Region.wanted o (yielded ops a.tmps) = true := by simp [Region.wanted, hgd]
  rw [if_pos hw]
  exact wp_copy_foot d s dT sT ho elem hu hsz dp sp dLen dCap sLen sCap hd hs g off cur t hg cs hn hpos hfit h1 h
end
end
section
open Go.RowKit
abbrev St := Option (List UInt8)
def stepTake (n : Int) : St → St × List UInt8
  | none => (none, [])
  | some L => if n < 0 ∨ (L.length : Int) < n then (none, []) else (some (L.drop n.toNat), L.take n.toNat)
theorem cur_cut {w : World} {g : Nat} {A : Option Addr} {L : List UInt8} {c k : Nat} (HG : Hid (w.heap[g]? = some (.cells #[.slice A L.length c, .bool false] 117 (0, 0)))) (hr : RB w w.heap.size A L) (hc : L.length ≤ c) (hl : L.length ≤ 1048576)
    (hk : k ≤ L.length) (A' : Option Addr) (c' : Nat) (h1 : c = k → A' = A) (h2 : c ≠ k → A' = A.map (·.add k)) (hc' : c' = c - k) :
    Cur (w.setCell ⟨g, 0, none⟩ (.slice A' (L.length - k) c')) g (some (L.drop k)) := by
  subst hc'
  have hA : A' = if c = k then A else A.map (·.add (k * 1)) := by
    rw [Nat.mul_one]
    by_cases h : c = k
    · rw [if_pos h]; exact h1 h
    · rw [if_neg h]; exact h2 h
  have hz : ∀ u, (w.setCell ⟨g, 0, none⟩ u).heap.size = w.heap.size := fun u => by simp [World.setCell]
  refine ⟨A', c - k, ?_, ?_, by rw [List.length_drop]; omega, by rw [List.length_drop]; omega⟩
  · rw [List.length_drop]
    exact Blk.set_ HG.out 0 (.slice A' (L.length - k) (c - k))
  · rw [hz, hA]
    exact rb_far (rb_cut hr hk hc) HG.out (cur_cells _ _ _ _) _
def GivesCur (g : Nat) (r : St × List UInt8) (w : World) (e : Ending) (w' : World) : Prop :=
  ∃ A c, e = .returned (.slice A r.2.length c) ∧ RB w' w'.heap.size A r.2 ∧ Cur w' g r.1 ∧ Only w w' g
theorem take_any (g : Nat) (n : Int) (st : St) (w : World) (h : Cur w g st) :
    Calls Try.prog 56 #[.pointer (some ⟨g, 0, none⟩), .int .i64 n] w (GivesCur g (stepTake n st) w) := by
  have hb := bad_any g _ w h
  have hfl := fail_any g _ w h
  rcases st with _ | L
  · have h' := Lib.hid h
    clear h
    go_enter Try.func56, Try.ntmps56
    go_wp2_with (go_at_call 72; refine hb.mono ?_; rintro e w' ⟨rfl, rfl⟩)
    go_ret
    exact ⟨none, 0, rfl, RB.none_ _ _, h'.out, only_refl _ _⟩
  · obtain ⟨A, c, hg, hr, hc, hl⟩ := h
    have hc0 : w.cell? ⟨g, 0, none⟩ = some (.slice A L.length c) := (blk_cell hg 0).1
    have hf0 : w.frozen? ⟨g, 0, none⟩ = false := (blk_cell hg 0).2
    have HG := Lib.hid hg
    clear hg
    by_cases hn : n < 0 ∨ (L.length : Int) < n
    · have HS : Hid (stepTake n (some L) = (none, [])) := by show _ = _; simp only [stepTake]; rw [if_pos hn]
      rcases hn with hn | hn
      · have hd : decide (n < 0) = true := by simp [hn]
        go_enter Try.func56, Try.ntmps56
        go_wp2_with (first
          | (go_at_call 72; refine hb.mono ?_; rintro e w' ⟨rfl, rfl⟩)
          | (go_at_call 74; refine hfl.mono ?_; rintro e w' ⟨rfl, hcur, honly, hsz⟩))
        go_ret
        rw [HS.out]
        exact ⟨none, 0, rfl, RB.none_ _ _, hcur, honly⟩
      · have hd : decide (n < 0) = false := by simp; omega
        have hd2 : decide ((L.length : Int) < n) = true := by simp [hn]
        go_enter Try.func56, Try.ntmps56
        go_wp2_with (first
          | (go_at_call 72; refine hb.mono ?_; rintro e w' ⟨rfl, rfl⟩)
          | (go_at_call 74; refine hfl.mono ?_; rintro e w' ⟨rfl, hcur, honly, hsz⟩))
        go_ret
        rw [HS.out]
        exact ⟨none, 0, rfl, RB.none_ _ _, hcur, honly⟩
    · have hd : decide (n < 0) = false := by simp; omega
      have hd2 : decide ((L.length : Int) < n) = false := by simp; omega
      obtain ⟨k, rfl⟩ : ∃ k : Nat, n = (k : Int) := ⟨n.toNat, by omega⟩
      have hkl : k ≤ L.length := by omega
      have HS : Hid (stepTake (k : Int) (some L) = (some (L.drop k), L.take k)) := by show _ = _; simp only [stepTake]; rw [if_neg hn]; simp
      clear hn
      go_enter Try.func56, Try.ntmps56
      have hlt : g < w.heap.size := Blk.lt HG.out
      have HLK : Hid ((L.take k).length = k) := by show _ = _; rw [List.length_take]; omega
      have hrt : RB w w.heap.size A (L.take k) := by
        refine ⟨by rw [cells_length]; simp, fun h0 => ?_⟩
        obtain ⟨ad, e, hb', hcc⟩ := hr.2 (by rw [List.length_take] at h0; omega)
        refine ⟨ad, e, hb', fun j u hu => hcc j u ?_⟩
        rw [← cells_take, List.getElem?_take] at hu
        split at hu
        · exact hu
        · cases hu
      go_wp2_with (first
        | (go_at_call 72; refine hb.mono ?_; rintro e w' ⟨rfl, rfl⟩)
        | (go_at_call 73; refine (copied_any (L.take k) k _ _ _ (by rw [List.length_take]; omega) hrt (by rw [List.length_take]; omega)).mono ?_; rintro e w1 ⟨A1, c1, he1, hown1, hb1⟩; rw [HLK.out] at he1; subst he1; have hc1 := (hb1.cell (p := ⟨g, 0, none⟩) hlt).trans hc0; have hf1 := (hb1.frozen (p := ⟨g, 0, none⟩) hlt).trans hf0))
      all_goals
        have HG1 : Hid (w1.heap[g]? = some (.cells #[.slice A L.length c, .bool false] 117 (0, 0))) := Blk.below HG.out hb1 hlt
        have hr1 : RB w1 w1.heap.size A L := (hr.below hb1).more hb1.size
        have hcur := fun A' c' a b d => cur_cut HG1 hr1 hc hl hkl A' c' a b d
        have ho1 : RB w1 w1.heap.size A1 (L.take k) := own_rb hown1
        go_ret
        rw [HS.out]
        refine ⟨A1, c1, by show _ = Ending.returned (.slice A1 (L.take k).length c1); rw [HLK.out]; rfl, ?_, hcur _ _ (fun hx => by first | rfl | (exact absurd hx (by assumption))) (fun hx => by first | rfl | (exact absurd (by assumption) hx)) (by omega), only_trans (only_below hb1 g) (only_set _ _ _ _)⟩
        have hz : ∀ u, (w1.setCell ⟨g, 0, none⟩ u).heap.size = w1.heap.size := fun u => by simp [World.setCell]
        rw [hz]
        exact rb_far ho1 HG1.out (cur_cells _ _ _ _) _
end
end Go.Proofs.Ytghenhacndaelaa
