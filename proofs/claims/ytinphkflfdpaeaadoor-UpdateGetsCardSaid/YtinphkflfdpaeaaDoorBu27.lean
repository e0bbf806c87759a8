/- Lemmas under the proofs of this place: OpPTake, Refb, ShaPAdd. No statement is proved here. -/
import Derived.Test.YtinphkflfdpaeaaDoorBu17
import Derived.Test.YtinphkflfdpaeaaDoorBu24
import Derived.Test.YtinphkflfdpaeaaDoorBu06
import Derived.Test.YtinphkflfdpaeaaDoorBu21
import Derived.Test.YtinphkflfdpaeaaDoorBu25
import Derived.Laws.CopyOwn
import Derived.Deep.RegionLaw
set_option linter.unusedSimpArgs false
set_option linter.unusedVariables false
set_option maxRecDepth 100000
set_option maxHeartbeats 16000000
namespace Go.Proofs.YtinphkflfdpaeaaDoor
section
open Go.RowKit
theorem unfixR_four (L : List UInt8) (h : L.length = 0 ∨ L.length = 4) : ((unfixR L).1 : Int) = (if 2147483647 < unfixL L then 0 else (unfixL L : Int)) := by
  rcases h with h | h
  · have : L = [] := List.length_eq_zero_iff.1 h
    subst this
    rfl
  · by_cases c : unfixL L ≤ 2147483647
    · rw [unfix_ok h (by omega) (by omega) c, if_neg (by omega)]
    · rw [unfix_bad h (by omega) (by omega) c, if_pos (by omega)]
      rfl
theorem take4_len (st : St) : (stepTake 4 st).2.length = 0 ∨ (stepTake 4 st).2.length = 4 := by
  rcases st with _ | L
  · exact .inl rfl
  · show (if _ then _ else _ : St × List UInt8).2.length = 0 ∨ (if _ then _ else _ : St × List UInt8).2.length = 4
    split
    · exact .inl rfl
    · refine .inr ?_
      simp only [List.length_take]
      omega
theorem preadNumber_any (B g : Nat) (st : St) (w : World) (h : CurB B w g st) (hB : B ≤ w.heap.size) :
    Calls Tryd.prog 76 #[.pointer (some ⟨g, 0, none⟩)] w fun e w' => e = .returned (.int .i64 (rdNum true st).2) ∧ CurB B w' g (rdNum true st).1 ∧ Only w w' g := by
  obtain ⟨s, st1, hs⟩ : ∃ s st1, stepByte st = (st1, s) := ⟨_, _, rfl⟩
  obtain ⟨st2, x, hx⟩ : ∃ st2 x, stepTake 4 st1 = (st2, x) := ⟨_, _, rfl⟩
  obtain ⟨u, hu⟩ : ∃ u : Int, u = if 2147483647 < unfixL x then 0 else (unfixL x : Int) := ⟨_, rfl⟩
  have hub : 0 ≤ u ∧ u ≤ 2147483647 := by rw [hu]; split <;> omega
  have hR : rdNum true st = (st2, if s = 1 then -u else u) := by
    unfold rdNum
    rw [if_pos rfl, hs]
    simp only []
    rw [hx]
    simp only []
    unfold numI
    rw [hu]
  have HR := Lib.hid hR
  have h1 : Hid (Calls Tryd.prog 23 #[.pointer (some ⟨g, 0, none⟩)] w fun e w' => e = .returned (.int .i64 (s : Int)) ∧ CurB B w' g st1 ∧ Only w w' g) := by
    have := byte_at B g st w h hB
    rw [hs] at this
    exact this
  have hl4 : x.length = 0 ∨ x.length = 4 := by have := take4_len st1; rw [hx] at this; exact this
  obtain ⟨n, hn⟩ : ∃ n, n = x.length := ⟨_, rfl⟩
  have hun := unfixR_four x hl4
  rw [← hu] at hun
  have h2 : Hid (∀ W, CurB B W g st1 → B ≤ W.heap.size → Calls Tryd.prog 26 #[.pointer (some ⟨g, 0, none⟩), .int .i64 4] W fun e w' => ∃ A c, e = .returned (.slice A n c) ∧ Hid (RB w' w'.heap.size A x) ∧ CurB B w' g st2 ∧ Only W w' g) := fun W hc hb => by
    have := take_at B g 4 st1 W hc hb
    rw [hx] at this
    refine this.mono fun e w' hh => ?_
    obtain ⟨A, c, q1, q2, q3, q4, q5⟩ := hh
    exact ⟨A, c, by rw [hn]; exact q1, q2, q4, q5⟩
  have h3 : Hid (∀ W A c, RB W W.heap.size A x → Calls Tryd.prog 88 #[.slice A n c] W fun e w' => (∃ f, e = .returned (.tuple #[.int .i64 u, .int .i64 f])) ∧ W = w') := fun W A c hr => by
    rw [hn]
    refine (unfix_any x A c _ W hr (by omega)).mono fun e w' hh => ?_
    obtain ⟨q1, q2⟩ := hh
    unfold UnfixPost at q1
    rw [hun] at q1
    exact ⟨⟨_, q1⟩, q2⟩
  by_cases c1 : s = 1
  · have d1 : ((s : Int) == 1) = true := by rw [c1]; rfl
    have y0 : IntKind.i64.wrap (-u) = -u := IntWalk.i64_in _ (by omega)
    have HR2 : Hid (rdNum true st = (st2, -u)) := by show _ = _; rw [HR.out, if_pos c1]
    clear hs hx hu hR HR h hl4 hn hun c1
    go_enter Tryd.func76, Tryd.ntmps76
    go_wp2_with (first
      | (go_at_call 23; (with_reducible refine h1.out.mono ?_); rintro e w1 ⟨rfl, hc1, ho1⟩; have HC1 := Lib.hid hc1; have HO1 := Lib.hid ho1)
      | (go_at_call 26; (with_reducible refine (h2.out _ HC1.out (Nat.le_trans hB HO1.out.size)).mono ?_); rintro e w2 ⟨A2, c2, rfl, hr2, hc2, ho2⟩; have HC2 := Lib.hid hc2; have HO2 := Lib.hid (only_trans HO1.out ho2))
      | (go_at_call 88; (with_reducible refine (h3.out _ _ _ hr2.out).mono ?_); rintro e w3 ⟨⟨f, rfl⟩, rfl⟩))
    go_ret
    rw [HR2.out]
    exact ⟨rfl, HC2.out, HO2.out⟩
  · have d1 : ((s : Int) == 1) = false := by simp; omega
    have HR2 : Hid (rdNum true st = (st2, u)) := by show _ = _; rw [HR.out, if_neg c1]
    clear hs hx hu hR HR h hl4 hn hun c1
    go_enter Tryd.func76, Tryd.ntmps76
    go_wp2_with (first
      | (go_at_call 23; (with_reducible refine h1.out.mono ?_); rintro e w1 ⟨rfl, hc1, ho1⟩; have HC1 := Lib.hid hc1; have HO1 := Lib.hid ho1)
      | (go_at_call 26; (with_reducible refine (h2.out _ HC1.out (Nat.le_trans hB HO1.out.size)).mono ?_); rintro e w2 ⟨A2, c2, rfl, hr2, hc2, ho2⟩; have HC2 := Lib.hid hc2; have HO2 := Lib.hid (only_trans HO1.out ho2))
      | (go_at_call 88; (with_reducible refine (h3.out _ _ _ hr2.out).mono ?_); rintro e w3 ⟨⟨f, rfl⟩, rfl⟩))
    go_ret
    rw [HR2.out]
    exact ⟨rfl, HC2.out, HO2.out⟩
theorem preadAt_6 (B g : Nat) (st : St) (hs m : Int) (w : World) (h : CurB B w g st) (hB : B ≤ w.heap.size) (h5 : bits .and .i64 hs 32 = m) (h0 : m ≠ 0) :
    Calls Tryd.prog 77 #[.pointer (some ⟨g, 0, none⟩), .int .i64 hs] w fun e w' => e = .returned (.string (text (stepTake 32 st).2)) ∧ CurB B w' g (stepTake 32 st).1 ∧ Only w w' g := by
  have d0 : (m == 0) = false := by simpa using h0
  obtain ⟨st2, x, hx⟩ : ∃ st2 x, stepTake 32 st = (st2, x) := ⟨_, _, rfl⟩
  obtain ⟨n, hn⟩ : ∃ n, n = x.length := ⟨_, rfl⟩
  have h2 : Hid (∀ W, CurB B W g st → B ≤ W.heap.size → Calls Tryd.prog 26 #[.pointer (some ⟨g, 0, none⟩), .int .i64 32] W fun e w' => ∃ A c, e = .returned (.slice A n c) ∧ Hid (RB w' w'.heap.size A x) ∧ CurB B w' g st2 ∧ Only W w' g) := fun W hc hb => by
    have := take_at B g 32 st W hc hb
    rw [hx] at this
    refine this.mono fun e w' hh => ?_
    obtain ⟨A, c, q1, q2, q3, q4, q5⟩ := hh
    exact ⟨A, c, by rw [hn]; exact q1, q2, q4, q5⟩
  have HN := Lib.hid hn
  have HC := Lib.hid h
  rw [hx]
  clear hx hn h h0
  go_enter Tryd.func77, Tryd.ntmps77
  go_wp2_with (first
    | (go_at_call 26; (with_reducible refine (h2.out _ HC.out hB).mono ?_); rintro e w2 ⟨A2, c2, rfl, hr2, hc2, ho2⟩; have HC2 := Lib.hid hc2; have HO2 := Lib.hid ho2; have est := aw_str hr2.out n c2 HN.out))
  go_ret
  exact ⟨rfl, HC2.out, HO2.out⟩
theorem preadAt_5 (B g : Nat) (st : St) (hs : Int) (w : World) (h : CurB B w g st) (hB : B ≤ w.heap.size) (h5 : bits .and .i64 hs 32 = 0) :
    Calls Tryd.prog 77 #[.pointer (some ⟨g, 0, none⟩), .int .i64 hs] w fun e w' => e = .returned (.string (text (rdAt5 st).2)) ∧ CurB B w' g (rdAt5 st).1 ∧ Only w w' g := by
  obtain ⟨s, st1, hs⟩ : ∃ s st1, stepByte st = (st1, s) := ⟨_, _, rfl⟩
  obtain ⟨st2, x, hx⟩ : ∃ st2 x, stepTake 32 st1 = (st2, x) := ⟨_, _, rfl⟩
  obtain ⟨n, hn⟩ : ∃ n, n = x.length := ⟨_, rfl⟩
  have h1 : Hid (Calls Tryd.prog 23 #[.pointer (some ⟨g, 0, none⟩)] w fun e w' => e = .returned (.int .i64 (s : Int)) ∧ CurB B w' g st1 ∧ Only w w' g) := by
    have := byte_at B g st w h hB
    rw [hs] at this
    exact this
  have h2 : Hid (∀ W, CurB B W g st1 → B ≤ W.heap.size → Calls Tryd.prog 26 #[.pointer (some ⟨g, 0, none⟩), .int .i64 32] W fun e w' => ∃ A c, e = .returned (.slice A n c) ∧ Hid (RB w' w'.heap.size A x) ∧ CurB B w' g st2 ∧ Only W w' g) := fun W hc hb => by
    have := take_at B g 32 st1 W hc hb
    rw [hx] at this
    refine this.mono fun e w' hh => ?_
    obtain ⟨A, c, q1, q2, q3, q4, q5⟩ := hh
    exact ⟨A, c, by rw [hn]; exact q1, q2, q4, q5⟩
  have HN := Lib.hid hn
  have HC := Lib.hid h
  by_cases c1 : s = 1
  · have d1 : ((s : Int) != 1) = false := by rw [c1]; rfl
    have HR : Hid (rdAt5 st = (st2, x)) := by show _ = _; unfold rdAt5; rw [hs]; simp only []; rw [if_pos c1, hx]
    clear hs hx hn h c1
    go_enter Tryd.func77, Tryd.ntmps77
    go_wp2_with (first
      | (go_at_call 23; (with_reducible refine h1.out.mono ?_); rintro e w1 ⟨rfl, hc1, ho1⟩; have HC1 := Lib.hid hc1; have HO1 := Lib.hid ho1)
      | (go_at_call 26; (with_reducible refine (h2.out _ HC1.out (Nat.le_trans hB HO1.out.size)).mono ?_); rintro e w2 ⟨A2, c2, rfl, hr2, hc2, ho2⟩; have HC2 := Lib.hid hc2; have HO2 := Lib.hid (only_trans HO1.out ho2); have est := aw_str hr2.out n c2 HN.out))
    go_ret
    rw [HR.out]
    exact ⟨rfl, HC2.out, HO2.out⟩
  · have d1 : ((s : Int) != 1) = true := by simp; omega
    have HR : Hid (rdAt5 st = (st1, [])) := by show _ = _; unfold rdAt5; rw [hs]; simp only []; rw [if_neg c1]
    clear hs hx hn h c1
    go_enter Tryd.func77, Tryd.ntmps77
    go_wp2_with (first
      | (go_at_call 23; (with_reducible refine h1.out.mono ?_); rintro e w1 ⟨rfl, hc1, ho1⟩; have HC1 := Lib.hid hc1; have HO1 := Lib.hid ho1))
    go_ret
    rw [HR.out]
    exact ⟨rfl, HC1.out, HO1.out⟩
end
section
open Go.RowKit
theorem refByte_any (A : Option Addr) (M : List UInt8) (c B : Nat) (v : Value) (st : St) (w : World) (h : RefV A M c v st) (hr : RB w B A M) (hB : B ≤ w.heap.size) (hc : M.length ≤ c) (hl : M.length ≤ 1048576) :
    Calls Tryd.prog 34 #[v] w (GivesRefN A M c (stepByte st) w) := by
  obtain ⟨r, hr'⟩ : ∃ r, r = stepTake 1 st := ⟨_, rfl⟩
  have HS : Hid (stepByte st = (r.1, headN r.2)) := by show _ = _; rw [hr']; rfl
  have HT := fun W (hrW : RB W B A M) (hBW : B ≤ W.heap.size) => refTake_any A M c B v 1 st W h hrW hBW hc hl
  rw [← hr'] at HT
  have HT' := Lib.hid HT
  have hf := refv_form h
  clear HT hr'
  obtain ⟨x0, x1, x2, rfl⟩ := hf
  obtain ⟨X0, n0, m0, k0, b0, rfl, rfl, rfl⟩ := refv_parts h
  clear h
  obtain ⟨st', l⟩ := r
  rcases l with _ | ⟨b, l⟩
  · go_enter Tryd.func34, Tryd.ntmps34
    go_wp2_with (go_at_call 36; refine (HT'.out _ ((hr.alloc hB _).alloc (by simp; omega) _) (by simp; omega)).mono ?_; rintro e w1 ⟨y0, y1, y2, A1, c1, he, hv1, hrb1, hb1⟩; obtain ⟨Y0, n1, m1, k1, b1, rfl, rfl, rfl⟩ := refv_parts hv1; subst he; obtain ⟨hc1, hf1⟩ := bcell hb1; have hz1 : w.heap.size + 1 < w1.heap.size := by have := hb1.size; simp at this; omega)
    refine bodyPost_ret (v := .tuple #[.agg #[.slice Y0 n1 m1, .int .i64 (k1 : Int), .bool b1], .int .i64 0]) (by simp [results, Tryd.results34, go_sem, hc1, hz1]) rfl ?_
    rw [HS.out]
    exact ⟨_, _, _, rfl, hv1, (below3 (two_then hb1) (by omega) _ _ _).alloc (by simp [World.setCell]; omega) _⟩
  · have hb256 := byte_lt b
    have hne : ((((b :: l).length : Nat) : Int) == 0) = false := by simp; omega
    go_enter Tryd.func34, Tryd.ntmps34
    go_wp2_with (go_at_call 36; refine (HT'.out _ ((hr.alloc hB _).alloc (by simp; omega) _) (by simp; omega)).mono ?_; rintro e w1 ⟨y0, y1, y2, A1, c1, he, hv1, hrb1, hb1⟩; obtain ⟨Y0, n1, m1, k1, b1, rfl, rfl, rfl⟩ := refv_parts hv1; subst he; obtain ⟨hc1, hf1⟩ := bcell hb1; have hz1 : w.heap.size + 1 < w1.heap.size := (by have := hb1.size; simp at this; omega); have hz0 : w.heap.size < w1.heap.size := (by omega); obtain ⟨bb, off, rfl, hbb, hcc⟩ := hrb1.at_ (by simp); have hc0 := hcc 0 (by simp); rw [Nat.add_zero] at hc0; simp only [List.getElem_cons_zero] at hc0; clear hcc; have hbb1 : bb < w1.heap.size := by omega)
    go_region
    go_wp2
    refine bodyPost_ret (v := .tuple #[.agg #[.slice Y0 n1 m1, .int .i64 (k1 : Int), .bool b1], .int .i64 (b.toNat : Int)]) (by simp [results, Tryd.results34, go_sem, hc1, hz1]) rfl ?_
    rw [HS.out]
    exact ⟨_, _, _, rfl, hv1, ((below3 (two_then hb1) (by omega) _ _ _).alloc (by simp [World.setCell]; omega) _).drew⟩
end
section
open Go.RowKit
theorem step_copy_at {P : Program} {ops : Array Oper} {o : Oper} {a : Act} {w : World} {K : Act → World → Prop} {Q : Exit → Act → World → Prop} {E : Prop} (hgd : o.guard = none) (d s : Operand) (dT sT : TypeId)
    (ho : o.op = .call { callee := .builtin .copy, args := #[d, s], argTypes := #[dT, sT] }) (elem : TypeId) (hu : P.underlying dT = some (.slice elem)) (hsz : (P.info? elem).map (·.size) = some 1)
    (g off dLen dCap : Nat) (ad : Addr) (sLen sCap : Nat) (hd : a.eval d = .slice (some ⟨g, off, none⟩) dLen dCap) (hs : a.eval s = .slice (some ad) sLen sCap)
    (cur : Array Value) (t : TypeId) (hg : w.heap[g]? = some (.cells cur t (0, 0))) (cs : List Value) (m : Nat) (hm : cs.length = m) (hn : m = Nat.min sLen dLen)
    (hsrc : ∀ j v, cs[j]? = some v → w.cell? (ad.add j) = some v)
    (hfit : off + m ≤ cur.size) (h1 : ∀ v ∈ cs, v.oneCell' = true)
    (h : ∀ w', Hid (w' = w.setRow g (cur.toList.take off ++ cs ++ cur.toList.drop (off + m)).toArray) → K (a.put o.dst (.int .i64 (m : Int))) w') :
    if Region.wanted o (yielded ops a.tmps) = true then Oper.wp P o a w K Q else E := by
  have hw : Region.wanted o (yielded ops a.tmps) = true := by simp [Region.wanted, hgd]
  subst hm
  rw [if_pos hw]
  have hrun := run_copy_row (P := P) w dT sT o.type elem g off dLen dCap ad sLen sCap cur t cs hu hsz hg hn hsrc hfit h1
  unfold Oper.wp
  simp [execOp, ho, resolve, invoke, builtin, hd, hs, hrun, Result.andThen]
  exact h _ (Lib.hid (by rw [List.append_assoc]))
def laid (blk : List UInt8) (r : Nat) (X : List UInt8) : List UInt8 := blk.take r ++ X ++ blk.drop (r + X.length)
theorem laid_length (blk X : List UInt8) (r : Nat) (h : r + X.length ≤ blk.length) : (laid blk r X).length = blk.length := by
  simp [laid]; omega
theorem hcells_laid (s : S8) (blk X : List UInt8) (n r : Nat) (h : r + X.length ≤ blk.length) :
    (hcells s blk n).take (8 + r) ++ cells X ++ (hcells s blk n).drop (8 + r + X.length) = hcells s (laid blk r X) n := by
  unfold hcells laid
  have e8 : (wcells s.list).length = 8 := by rw [wcells_length, list_S8]
  have h1 : (wcells s.list ++ (cells blk ++ [Value.int .u64 (n : Int)])).take (8 + r) = wcells s.list ++ cells (blk.take r) := by
    rw [List.take_append, List.take_of_length_le (by omega), e8, show 8 + r - 8 = r by omega, List.take_append_of_le_length (by rw [cells_length]; omega), cells_take]
  have h2 : (wcells s.list ++ (cells blk ++ [Value.int .u64 (n : Int)])).drop (8 + r + X.length) = cells (blk.drop (r + X.length)) ++ [Value.int .u64 (n : Int)] := by
    rw [List.drop_append, List.drop_eq_nil_of_le (by omega), e8, show 8 + r + X.length - 8 = r + X.length by omega, List.nil_append, List.drop_append_of_le_length (by rw [cells_length]; omega), cells_drop]
  rw [h1, h2, cells_append, cells_append]
  simp
theorem hcells_size_set (s : S8) (blk : List UInt8) (n m : Nat) (h : blk.length = 64) : (hcells s blk n).toArray.setIfInBounds 72 (.int .u64 (m : Int)) = (hcells s blk m).toArray := by
  apply Array.toList_inj.1
  unfold hcells
  have e8 : (wcells s.list).length = 8 := by rw [wcells_length, list_S8]
  have e64 : (cells blk).length = 64 := by rw [cells_length, h]
  simp only [Array.toList_setIfInBounds]
  rw [← List.append_assoc, ← List.append_assoc, List.set_append_right _ _ (by rw [List.length_append]; omega), List.length_append, e8, e64]
  rfl
theorem HB.setSize {w : World} {g : Nat} {s : S8} {blk : List UInt8} {n : Nat} (h : HB w g s blk n) (m : Nat) : HB (w.setCell ⟨g, 72, none⟩ (.int .u64 (m : Int))) g s blk m := by
  have h1 := h.1.set_ 72 (.int .u64 (m : Int))
  rw [hcells_size_set s blk n m h.2] at h1
  exact ⟨h1, h.2⟩
theorem HB.lay {w w' : World} {g : Nat} {s : S8} {blk : List UInt8} {n r m : Nat} {X : List UInt8} (h : HB w g s blk n) (hr : r + X.length ≤ 64) (hm : X.length = m)
    (hw : w' = w.setRow g ((hcells s blk n).toArray.toList.take (8 + r) ++ cells X ++ (hcells s blk n).toArray.toList.drop (8 + r + m)).toArray) : HB w' g s (laid blk r X) n := by
  subst hm
  rw [hw]
  have h0 : (hcells s blk n).toArray.toList = hcells s blk n := rfl
  rw [h0, hcells_laid s blk X n r (by rw [h.2]; exact hr)]
  exact ⟨setRow_heap w g _ _ _ _ h.1, by rw [laid_length _ _ _ (by rw [h.2]; exact hr), h.2]⟩
theorem setRow_only (w : World) (g : Nat) (cs : Array Value) : Only w (w.setRow g cs) g :=
  ⟨rfl, rfl, rfl, by simp [World.setRow], fun k _ hk => by
    have hk' : k ≠ g := fun e => hk (by simp [e])
    show (w.heap.modify g _)[k]? = _
    rw [Array.getElem?_modify]
    simp [show ¬ g = k from fun e => hk' e.symm]⟩
theorem HashAt.small {w : World} {g : Nat} {L X blk : List UInt8} (h : HB w g (stateL L) (laid blk (L.length % 64) X) (L.length + X.length)) (hb : blk.length = 64) (ht : blk.take (L.length % 64) = restL L) (hs : L.length % 64 + X.length < 64) : HashAt w g (L ++ X) := by
  obtain ⟨e1, e2⟩ := state_small L X hs
  refine ⟨_, by rw [e1, List.length_append]; exact h, ?_⟩
  rw [e2, List.length_append, show (L.length + X.length) % 64 = L.length % 64 + X.length by omega, ← ht]
  exact splice_take _ _ _ (by omega)
theorem HashAt.full {w : World} {g : Nat} {L X blk : List UInt8} (h : HB w g (blockL (stateL L) (laid blk (L.length % 64) X)) (laid blk (L.length % 64) X) (L.length + X.length)) (hb : blk.length = 64) (ht : blk.take (L.length % 64) = restL L) (hs : L.length % 64 + X.length = 64) : HashAt w g (L ++ X) := by
  obtain ⟨e1, e2⟩ := state_full L X hs
  have e3 : laid blk (L.length % 64) X = restL L ++ X := by
    unfold laid
    rw [hs, List.drop_eq_nil_of_le (by omega), List.append_nil, ht]
  refine ⟨_, by rw [e1, List.length_append, ← e3]; exact h, ?_⟩
  rw [e2, List.length_append, show (L.length + X.length) % 64 = 0 by omega]
  rfl
theorem RB.only {w w' : World} {B g : Nat} {A : Option Addr} {M : List UInt8} (h : RB w B A M) (hl : B ≤ w.heap.size) (ho : Only w w' g) (ha : ∀ ad, A = some ad → ad.block ≠ g) : RB w' B A M := by
  refine ⟨h.1, fun h0 => ?_⟩
  obtain ⟨ad, e, hb, hc⟩ := h.2 h0
  refine ⟨ad, e, hb, fun j u hu => ?_⟩
  have := ho.block ad.block (by omega) (by simp; exact ha ad e)
  have h1 := hc j u hu
  have eb : (ad.add j).block = ad.block := block_of_add _ _
  unfold World.cell? at h1 ⊢
  rw [eb, this]
  rw [eb] at h1
  exact h1
theorem add_any (L M : List UInt8) (g : Nat) (A : Option Addr) (c : Nat) (w : World) (h : HashAt w g L) (hg : g ≠ 0) (hT : Tab w) (hr : RB w w.heap.size A M) (ha : ∀ ad, A = some ad → ad.block ≠ g)
    (hl : L.length + M.length ≤ 1000000) (hc : M.length ≤ c) (hcm : c ≤ 9223372036854775807) :
    Calls Tryd.prog 66 #[.pointer (some ⟨g, 0, none⟩), .slice A M.length c] w fun e w' => e = .returned (.tuple #[]) ∧ HashAt w' g (L ++ M) ∧ Only w w' g := by
  have HG : Hid (g ≠ 0) := hg
  have HTb : Hid (Tab w) := hT
  clear hg hT
  go_enter Tryd.func66, Tryd.ntmps66
  go_wp2
  go_loopw [1, 4] (fun v v4 wr => ∃ (k n c1 : Nat) (A1 : Option Addr), k ≤ M.length ∧ Hid (n = M.length - k) ∧ v = .slice A1 n c1 ∧ n ≤ c1 ∧ c1 ≤ 9223372036854775807 ∧ RB wr wr.heap.size A1 (M.drop k) ∧ (∀ ad, A1 = some ad → ad.block ≠ g) ∧ HashAt wr g (L ++ M.take k) ∧ Only w wr g) (fun v _ _ => match v with | .slice _ n _ => n | _ => 0)
  case atStart => exact ⟨0, M.length, c, A, by omega, rfl, rfl, hc, hcm, hr, ha, by simpa using h, only_refl w g⟩
  case round =>
    clear h hr ha hc hcm
    obtain ⟨k, n, c1, A1, hk, HN, rfl, hc1, hcm1, hr, ha, h, ho⟩ := hrel
    by_cases hlt : 0 < n
    · have hn := HN.out
      obtain ⟨blk, hB, ht⟩ := h
      obtain ⟨N, hN⟩ : ∃ N, N = (L ++ M.take k).length := ⟨_, rfl⟩
      have hNk : N = L.length + k := by rw [hN]; simp; omega
      rw [← hN] at hB ht
      obtain ⟨r, hrr⟩ : ∃ r, r = N % 64 := ⟨_, rfl⟩
      obtain ⟨m, hm⟩ : ∃ m, m = min n (64 - r) := ⟨_, rfl⟩
      obtain ⟨X, hX⟩ : ∃ X, X = (M.drop k).take m := ⟨_, rfl⟩
      have hXl : X.length = m := by rw [hX]; simp; omega
      have hr64 : r < 64 := by omega
      have hm0 : 0 < m := by omega
      have hmn : m ≤ n := by omega
      have hmr : r + m ≤ 64 := by omega
      obtain ⟨ad, rfl, hlt1, hcl⟩ := hr.2 (by simp; omega)
      obtain ⟨b1, o1, p1⟩ := ad
      obtain ⟨S, hS⟩ : ∃ S, S = stateL (L ++ M.take k) := ⟨_, rfl⟩
      rw [← hS] at hB
      have hX0 : 0 < (M.drop k).length := by simp; omega
      have hsrc : Hid (∀ j v, (cells X)[j]? = some v → wr.drew.cell? (Addr.add ⟨b1, o1, p1⟩ j) = some v) := fun j v hv => by
        have hj : j < X.length := by have := (List.getElem?_eq_some_iff.1 hv).1; rw [cells_length] at this; exact this
        refine hcl j v ?_
        rw [cells_get _ _ hj] at hv
        rw [cells_get _ _ (by simp; omega), ← hv]
        simp [hX]
      have hp1 : p1 = none := by
        have h0 := hcl 0 _ (cells_get _ 0 hX0)
        have e0 : (⟨b1, o1, p1⟩ : Addr).add 0 = ⟨b1, o1, p1⟩ := by simp [Addr.add]
        rw [e0] at h0
        exact World.cell?_spot h0
      subst hp1
      have cN : wr.cell? ⟨g, 72, none⟩ = some (.int .u64 (N : Int)) := hB.size
      have HkB : Hid (HB wr g S blk N) := hB
      have eN : (N : Int) % 64 = (r : Int) := by omega
      have eT : (N : Int).tmod 64 = (r : Int) := by rw [Int.tmod_eq_emod_of_nonneg (by omega)]; exact eN
      have r0 : (0 : Int) ≤ (r : Int) := by omega
      have r1 : (r : Int) ≤ 64 := by omega
      have r2 : ¬ 64 = r := by omega
      have u0 : (0 : Int) < (n : Int) := by omega
      have hcp : Hid (m = Nat.min n (64 - r) ∧ 8 + r + m ≤ (hcells S blk N).toArray.size ∧ (cells X).length = m) := ⟨hm, by simp [hcells_length _ _ _ hB.2]; omega, by rw [cells_length, hXl]⟩
      have HF : Hid (N = (L ++ M.take k).length ∧ N = L.length + k ∧ r = N % 64 ∧ m = min n (64 - r) ∧ X = (M.drop k).take m ∧ X.length = m ∧ n = M.length - k ∧ S = stateL (L ++ M.take k) ∧ blk.take (N % 64) = restL (L ++ M.take k)) := ⟨hN, hNk, hrr, hm, hX, hXl, hn, hS, ht⟩
      clear hcl hB hN hNk hrr hm hX hXl hn hS ht hX0
      go_wp2
      go_region_law (refine step_copy_at rfl (.tmp 18) (.tmp 19) 29 29 rfl 5 Tryd.underlying29 Tryd.sha1 g (8 + r) (64 - r) (64 - r) ⟨b1, o1, none⟩ n c1 rfl rfl (hcells S blk N).toArray 104 HkB.out.1.drew (cells X) m hcp.out.2.2 hcp.out.1 hsrc.out hcp.out.2.1 (cells_one _) ?_; intro w2 hw2)
      all_goals
        have hB2 : HB w2 g S (laid blk r X) N := HB.lay (r := r) (X := X) (m := m) (show HB wr.drew g S blk N from ⟨HkB.out.1.drew, HkB.out.2⟩) (by have := HF.out; omega) HF.out.2.2.2.2.2.1 hw2.out
        have ho2 : Only w w2 g := only_trans ho (only_drew (by rw [hw2.out]; exact setRow_only _ _ _))
        have hr2 : RB w2 w2.heap.size (some ⟨b1, o1, none⟩) (M.drop k) := (RB.only hr (Nat.le_refl _) (show Only wr w2 g from only_drew (by rw [hw2.out]; exact setRow_only _ _ _)) ha).more (by rw [hw2.out]; simp [World.setRow])
        have cN2 : w2.cell? ⟨g, 72, none⟩ = some (.int .u64 (N : Int)) := hB2.size
        have fN2 : w2.frozen? ⟨g, 72, none⟩ = false := hB2.frozen _
        have HB2 : Hid (HB (w2.setCell ⟨g, 72, none⟩ (.int .u64 ((N + m : Nat) : Int))) g S (laid blk r X) (N + m)) := hB2.setSize _
        have hcp2 := rb_cut hr2 (show m ≤ (M.drop k).length by have := HF.out; simp; omega) (show (M.drop k).length ≤ c1 by have := HF.out; simp; omega)
        obtain ⟨A2, hA2⟩ : ∃ A2, A2 = (if c1 = m then some ⟨b1, o1, none⟩ else Option.map (fun x : Addr => x.add (m * 1)) (some ⟨b1, o1, none⟩)) := ⟨_, rfl⟩
        rw [← hA2, List.drop_drop] at hcp2
        have ha2 : ∀ ad, A2 = some ad → ad.block ≠ g := by
          intro ad e
          have hb := ha _ rfl
          rw [hA2] at e
          split at e
          · injection e with e; subst e; exact hb
          · simp only [Option.map_some, Option.some.injEq] at e; subst e; rw [block_of_add]; exact hb
        have HMx : Hid (Calls Tryd.prog 81 #[.pointer (some ⟨g, 0, none⟩)] (w2.setCell ⟨g, 72, none⟩ (.int .u64 ((N : Int) + (m : Int)))) fun e w' => e = .returned (.tuple #[]) ∧ HB w' g (blockL S (laid blk r X)) (laid blk r X) (N + m) ∧ Only (w2.setCell ⟨g, 72, none⟩ (.int .u64 ((N : Int) + (m : Int)))) w' g) := by
          have ec : ((N : Int) + (m : Int)) = ((N + m : Nat) : Int) := by omega
          rw [ec]
          exact mix_any S (laid blk r X) (N + m) g _ HB2.out (HTb.out.only (only_trans ho2 (only_set _ _ _ _)) HG.out)
        have HD : Hid (blk.length = 64) := HkB.out.2
        clear hB2 hr2 hw2 cN HkB hsrc hcp ho hr ha
        have HA2 := Lib.hid hA2
        clear hA2
        have v0 : (m : Int) ≤ (n : Int) := by have := HF.out; omega
        have v1 : (n : Int) ≤ (c1 : Int) := by omega
        have v2 : (0 : Int) ≤ (m : Int) := by omega
        have v3 : (N : Int) ≤ 1000000 := by have := HF.out; omega
        have v4 : (m : Int) ≤ 64 := by have := HF.out; omega
        have HSL : ∀ W, (Instr.sliceAt 29 (.slice (some ⟨b1, o1, none⟩) n c1) (some (.int .i64 (m : Int))) none none).run Tryd.prog W = .ok (.slice A2 (n - m) (c1 - m)) W := by
          intro W
          have hu : Tryd.prog.underlying 29 = some (.slice (Tryd.prog.elem 29)) := by kernel_rfl
          have he : Tryd.prog.elem 29 = 5 := by kernel_rfl
          have hs : (sizeOf 5).run Tryd.prog W = .ok 1 W := by kernel_rfl
          have e : (m : Int).toNat = m := by omega
          rw [run_sliceAt_slice _ _ _ _ _ _ hu, run_slice_l _ _ _ _ _ hu .i64 (m : Int) v2 v0, he, hs]
          simp only [Result.andThen_ok, e, sliced, HA2.out]
        have HEa : Hid (((N : Int) + (m : Int)) = ((N + m : Nat) : Int)) := by show _ = _; omega
        have HR : Hid (∀ W, Only w2 W g → RB W W.heap.size A2 (M.drop (k + m))) := fun W hW => (RB.only hcp2 (Nat.le_refl _) hW ha2).more hW.size
        have HH : Hid (L ++ M.take (k + m) = (L ++ M.take k) ++ X) := by
          show _ = _
          rw [HF.out.2.2.2.2.1, List.append_assoc, ← List.take_add]
        clear hcp2
        by_cases hfull : r + m = 64
        · have eF : ((N : Int) + (m : Int)) % 64 = 0 := by have := HF.out; omega
          have eT2 : ((N : Int) + (m : Int)).tmod 64 = 0 := by rw [Int.tmod_eq_emod_of_nonneg (by omega)]; exact eF
          go_wp2_with (go_at_call 81; (with_reducible refine HMx.out.mono ?_); rintro e w3 ⟨rfl, hB3, ho3⟩)
          have hF := HF.out
          refine ⟨⟨k + m, n - m, c1 - m, A2, by omega, by show _ = _; omega, rfl, by omega, by omega, HR.out _ (only_trans (only_set _ _ _ _) ho3), ha2, ?_, only_trans (only_trans ho2 (only_set _ _ _ _)) ho3⟩, by show n - m < n; omega⟩
          rw [HH.out]
          refine HashAt.full (blk := blk) ?_ HD.out (by rw [← hF.1]; exact hF.2.2.2.2.2.2.2.2) (by rw [← hF.1, ← hF.2.2.1, hF.2.2.2.2.2.1]; exact hfull)
          rw [← hF.2.2.2.2.2.2.2.1, ← hF.1, ← hF.2.2.1, hF.2.2.2.2.2.1]
          exact hB3
        · have eF : ((N : Int) + (m : Int)) % 64 = (r : Int) + (m : Int) := by have := HF.out; omega
          have eT2 : ((N : Int) + (m : Int)).tmod 64 = (r : Int) + (m : Int) := by rw [Int.tmod_eq_emod_of_nonneg (by omega)]; exact eF
          have eN0 : ¬ ((r : Int) + (m : Int) = 0) := by have := HF.out; omega
          go_wp2
          have hF := HF.out
          rw [HEa.out]
          refine ⟨⟨k + m, n - m, c1 - m, A2, by omega, by show _ = _; omega, rfl, by omega, by omega, HR.out _ (only_set _ _ _ _), ha2, ?_, only_trans ho2 (only_set _ _ _ _)⟩, by show n - m < n; omega⟩
          rw [HH.out]
          refine HashAt.small (blk := blk) ?_ HD.out (by rw [← hF.1]; exact hF.2.2.2.2.2.2.2.2) (by rw [← hF.1, ← hF.2.2.1, hF.2.2.2.2.2.1]; omega)
          rw [← hF.2.2.2.2.2.2.2.1, ← hF.1, ← hF.2.2.1, hF.2.2.2.2.2.1]
          exact HB2.out
    · have hn := HN.out
      have hk2 : k = M.length := by omega
      have hn0 : n = 0 := by omega
      rw [hk2, List.take_of_length_le (Nat.le_refl _)] at h
      subst hn0
      clear hk2 hn HN hr
      go_wp2
      go_end0
      exact ⟨rfl, h, ho⟩
end
end Go.Proofs.YtinphkflfdpaeaaDoor
