/- Lemmas under the proofs of this place: Flags, TakeC. No statement is proved here. -/
import Derived.Test.YtbeihiokjhfepaaBu07
import Derived.Test.YtbeihiokjhfepaaBu02
import Derived.Test.YtbeihiokjhfepaaBu08
set_option linter.unusedSimpArgs false
set_option linter.unusedVariables false
namespace Go.Proofs.Ytbeihiokjhfepaa
section
open Go.RowKit
def flC (l : List Bool) : List Value := l.map Value.bool
theorem flC_get (l : List Bool) (k : Nat) (h : k < l.length) : (flC l).toArray[k]? = some (.bool (l.getD k false)) := by
  simp [flC, List.getD, List.getElem?_eq_getElem h]
theorem flC_set (l : List Bool) (k : Nat) (b : Bool) : (flC l).toArray.setIfInBounds k (.bool b) = (flC (l.set k b)).toArray := by
  simp [flC, List.map_set]
def FlB (w : World) (g : Nat) (l : List Bool) : Prop := Blk w g 4 (flC l).toArray
section
variable {w w' : World} {g : Nat} {l : List Bool}
theorem FlB.lt (h : FlB w g l) : g < w.heap.size := Blk.lt (t := 4) h
theorem FlB.cell (h : FlB w g l) {k : Nat} (hk : k < l.length) : w.cell? ⟨g, k, none⟩ = some (.bool (l.getD k false)) := by
  have h1 := Blk.cell (t := 4) h k
  rw [flC_get l k hk] at h1
  exact h1
theorem FlB.frozen (h : FlB w g l) (k : Nat) : w.frozen? ⟨g, k, none⟩ = false := Blk.frozen (t := 4) h k
theorem FlB.below {B : Nat} (h : FlB w g l) (hb : Below B w w') (hg : g < B) : FlB w' g l := Blk.below (t := 4) h hb hg
theorem FlB.set_ (h : FlB w g l) (k : Nat) (b : Bool) : FlB (w.setCell ⟨g, k, none⟩ (.bool b)) g (l.set k b) := by
  have h1 := Blk.set_ (t := 4) h k (.bool b)
  rw [flC_set] at h1
  exact h1
end
theorem Try.infoFl : (Try.prog.info? 4).map (fun i => (i.zero, i.size, i.bytes)) = some (some (.bool false), 1, 1) := by kernel_rfl
theorem make_flags {ops : Array Oper} {rest : List Oper} {o : Oper} {a : Act} {Q : Exit → Act → World → Prop} {wr : World} (hgd : o.guard = none) (n : Nat) (l c : Operand) (ho : o.op = .makeSlice 68 l c) (hl : a.eval l = .int .i64 (n : Int)) (hc : a.eval c = .int .i64 (n : Int)) (hn : n ≤ 1000000)
    (h : ∀ w1, Hid (FlB w1 wr.heap.size (List.replicate n false)) → Hid (Below wr.heap.size wr w1) → wpList Try.prog ops Q rest (a.put o.dst (.slice (some ⟨wr.heap.size, 0, none⟩) n n)) w1) :
    wpList Try.prog ops Q (o :: rest) a wr := by
  obtain ⟨i0, hi0, hz0, hz1, hz2⟩ := info_parts Try.infoFl
  refine wpList_make_full _ hgd l c 68 ho wr.heap.size 4 i0 _ 1 Try.underlying68 hi0 hz0 hz1 .i64 .i64 _ _ n hl hc rfl rfl (by have : i0.bytes = 1 := hz2; rw [this]; omega) (by unfold maxLen; omega) (Nat.le_refl _) fun w1 hown hg => ?_
  refine h w1 ?_ ((Below.refl _ _).grown hg (Nat.le_refl _) (by simp))
  have e : (madeCells (Value.bool false).cells (n * 1)).toList = flC (List.replicate n false) := by
    rw [Nat.mul_one, show (Value.bool false).cells = #[Value.bool false] from rfl, toList_madeCells_one]
    simp [flC]
  rw [e] at hown
  show FlB _ _ _
  rcases hown.2 with ⟨h', _⟩ | ⟨g', cap', cur, h', hb, hg2, hnc, hcm, hcs, htake⟩
  · simp at h'
  · simp only [Value.slice.injEq, Option.some.injEq, Addr.mk.injEq, and_true, true_and] at h'
    obtain ⟨rfl, rfl⟩ := h'
    have : cur = (flC (List.replicate n false)).toArray := by
      apply Array.toList_inj.1
      rw [← htake, List.take_of_length_le (by simp [hcs])]
    rw [this] at hg2
    exact hg2
end
section
open Go.RowKit
section
variable {P : Program} {ops : Array Oper} {Q : Exit → Act → World → Prop} {md : Region.Mode} {S : World → Prop} {T : Nat → Bool}
def reachM (md : Region.Mode) (i : Nat) : List Oper → Nat → Nat → Nat
  | [], _, m => m
  | o :: r, j, m => match (Nat.beq j i || o.after.any fun e => Region.binds md e && m.testBit e.on) with
    | true => reachM md i r (j + 1) (m ||| 2 ^ j)
    | false => reachM md i r (j + 1) m
def waitsC (md : Region.Mode) (ops : Array Oper) (T : Nat → Bool) (i : Nat) : Bool := (List.range ops.size).all fun j => !T j || (reachM md i ops.toList 0 0).testBit j
def Closed_ (md : Region.Mode) (ops : Array Oper) (listed : Array Bool) : Prop := ∀ j, listed.getD j false = true → ∀ o, ops[j]? = some o → ∀ e ∈ o.after, Region.binds md e = true → listed.getD e.on false = true
def closedB (md : Region.Mode) (ops : Array Oper) (listed : Array Bool) : Bool := (List.range ops.size).all fun j => !listed.getD j false || (match ops[j]? with | some o => o.after.all (fun e => !Region.binds md e || listed.getD e.on false) | none => true)
theorem closed_of {listed : Array Bool} (h : closedB md ops listed = true) : Closed_ md ops listed := fun j hj o ho e he hb => by
  unfold closedB at h
  have hlt : j < ops.size := (Array.getElem?_eq_some_iff.1 ho).1
  have h1 := List.all_eq_true.1 h j (List.mem_range.2 hlt)
  rw [hj, ho] at h1
  simp only [Bool.not_true, Bool.false_or, Array.all_eq_true_iff_forall_mem] at h1
  have h2 := h1 e he
  rw [hb] at h2
  simpa using h2
def ReachQ (md : Region.Mode) (ops : Array Oper) (listed : Array Bool) (i k : Nat) : Prop := k = i ∨ ∃ o, ops[k]? = some o ∧ ((∀ e ∈ o.after, Region.binds md e = true → listed.getD e.on false = true) → listed.getD i false = true)
theorem reachM_listed {listed : Array Bool} (hc : Closed_ md ops listed) (i : Nat) : ∀ (r p : List Oper) (m : Nat), ops.toList = p ++ r → (∀ k, m.testBit k = true → ReachQ md ops listed i k) → ∀ k, (reachM md i r p.length m).testBit k = true → ReachQ md ops listed i k
  | [], p, m, _, hm, k, h => hm k h
  | o :: r, p, m, hp, hm, k, h => by
    have hp2 : ops.toList = (p ++ [o]) ++ r := by rw [hp, List.append_assoc]; rfl
    have hl : (p ++ [o]).length = p.length + 1 := by simp
    have ho : ops[p.length]? = some o := by
      rw [← Array.getElem?_toList, hp, List.getElem?_append_right (Nat.le_refl _), Nat.sub_self]
      rfl
    unfold reachM at h
    rw [← hl] at h
    split at h
    · rename_i hb
      refine reachM_listed hc i r (p ++ [o]) _ hp2 (fun k2 h2 => ?_) k h
      rw [Nat.testBit_or, Nat.testBit_two_pow, Bool.or_eq_true, decide_eq_true_eq] at h2
      rcases h2 with h2 | h2
      · exact hm k2 h2
      · subst h2
        rw [Bool.or_eq_true] at hb
        rcases hb with hb | hb
        · exact .inl (Nat.eq_of_beq_eq_true hb)
        · refine .inr ⟨o, ho, fun ha => ?_⟩
          simp only [Array.any_eq_true] at hb
          obtain ⟨q, hq, hb2⟩ := hb
          rw [Bool.and_eq_true] at hb2
          have hle := ha _ (Array.getElem_mem hq) hb2.1
          rcases hm _ hb2.2 with h3 | ⟨o2, ho2, h3⟩
          · rw [← h3]; exact hle
          · exact h3 (fun e he hbe => hc _ hle o2 ho2 e he hbe)
    · exact reachM_listed hc i r (p ++ [o]) _ hp2 hm k h
theorem waitsC_listed {listed : Array Bool} (hc : Closed_ md ops listed) {i j : Nat} {oj : Oper} (h : waitsC md ops T i = true) (hj : ops[j]? = some oj) (hT : T j = true) (hji : j ≠ i) (ha : ∀ e ∈ oj.after, Region.binds md e = true → listed.getD e.on false = true) : listed.getD i false = true := by
  unfold waitsC at h
  have hlt : j < ops.size := (Array.getElem?_eq_some_iff.1 hj).1
  have h1 := List.all_eq_true.1 h j (List.mem_range.2 hlt)
  rw [hT] at h1
  have h2 : (reachM md i ops.toList 0 0).testBit j = true := by simpa using h1
  rcases reachM_listed hc i ops.toList [] 0 rfl (fun k hk => by simp at hk) j h2 with h3 | ⟨o, ho, h3⟩
  · exact absurd h3 hji
  · rw [hj] at ho
    cases ho
    exact h3 ha
theorem wpAnyC_first {i : Nat} {oi : Oper} {v : Value} (hi : ops[i]? = some oi) (hw : waitsC md ops T i = true) (hTi : T i = false) (hsel : ∀ (j : Nat) (o : Oper) cs b, ops[j]? = some o → o.op ≠ .select cs b)
    (hQ : ∀ c a w, Q (.panic c) (a.put oi.dst v) w → Q (.panic c) a w) :
    ∀ (fuel : Nat) (listed : Array Bool) (a : Act) (w : World),
      (∀ j oj, ops[j]? = some oj → j ≠ i → listed.getD j true = false → (∀ e ∈ oj.after, Region.binds md e = true → e.on ≠ i) → oi.apart ops oj = true) →
      Closed_ md ops listed → i ∈ Region.ready md ops listed → YieldsIf P ops S oi v a → S w →
      wpAnyT P md ops Q S T fuel (listed.setIfInBounds i true) (a.put oi.dst v) w → wpAnyT P md ops Q S T (fuel + 1) listed a w := by
  intro fuel
  induction fuel with
  | zero =>
    intro listed a w _ _ hr hy hS H
    refine ⟨fun h => (by rw [h] at hr; cases hr), fun j hj => ?_⟩
    by_cases hji : j = i
    · subst hji; exact hy.wpOp hi hS ⟨fun _ => hS, H⟩
    · have := ready_mono hj hji
      rw [H.1] at this
      cases this
  | succ fuel ih =>
    intro listed a w hfree hcl hr hy hS H
    refine ⟨fun h => (by rw [h] at hr; cases hr), fun j hj => ?_⟩
    by_cases hji : j = i
    · subst hji; exact hy.wpOp hi hS ⟨fun _ => hS, H⟩
    · have h1 := H.2 j (ready_mono hj hji)
      obtain ⟨hjun, oj, hoj, hall⟩ := mem_ready.1 hj
      have hiun : listed.getD i false = false := by
        have h0 := (mem_ready.1 hr).1
        rcases Nat.lt_or_ge i listed.size with h' | h'
        · simp [h'] at h0 ⊢; exact h0
        · simp [Array.getElem?_eq_none h'] at h0
      have hnot : ∀ e ∈ oj.after, Region.binds md e = true → e.on ≠ i := fun e he hb heq => by
        have h1 := hall e he hb
        rw [heq, hiun] at h1
        cases h1
      have hTj : T j = false := by
        cases hT : T j with
        | false => rfl
        | true =>
          have h3 := waitsC_listed hcl hw hoj hT hji hall
          rw [hiun] at h3
          cases h3
      have h2 := wpOp_putIf hoj (hfree j oj hoj hji hjun hnot) (fun cs b => hsel i oi cs b hi) (fun cs b => hsel j oj cs b hoj) hQ hy h1
      have hfree' : ∀ k ok, ops[k]? = some ok → k ≠ i → (listed.setIfInBounds j true).getD k true = false →
          (∀ e ∈ ok.after, Region.binds md e = true → e.on ≠ i) → oi.apart ops ok = true := fun k ok hk hki hun hno => by
        refine hfree k ok hk hki ?_ hno
        by_cases hjk : j = k
        · subst hjk; exact hjun
        · rw [getD_set_ne true hjk] at hun; exact hun
      have hcl' : Closed_ md ops (listed.setIfInBounds j true) := fun k hk o ho e he hb => by
        by_cases hjk : j = k
        · subst hjk
          rw [hoj] at ho
          injection ho with ho
          subst ho
          exact getD_set_true (hall e he hb)
        · rw [getD_set_ne false hjk] at hk
          exact getD_set_true (hcl k hk o ho e he hb)
      refine wpOp_mono (fun a' w' h3 => ⟨h3.2.1, ih (listed.setIfInBounds j true) a' w' hfree' hcl' (ready_mono hr (Ne.symm hji)) h3.1 (h3.2.1 hTj) ?_⟩) h2
      rw [Array.setIfInBounds_comm _ _ hji]
      exact h3.2.2
theorem take_c {i fuel : Nat} {oi : Oper} {listed : Array Bool} {a : Act} {w : World} (v : Value) (d : Nat) (hi : ops[i]? = some oi) (hd : oi.dst = some d) (hs : Region.noSelect ops = true) (hf : Region.free md ops listed i = true) (hr : (Region.ready md ops listed).contains i = true) (hc : closedB md ops listed = true)
    (hT : T i = false) (hwt : waitsC md ops T i = true) (hw : Region.wanted oi (yielded ops a.tmps) = true) (hy : ∀ w, S w → (execOp a.eval oi).run P w = .ok (.value v) w) (hS : S w) (hQ : ∀ c a w, Q (.panic c) (a.put oi.dst v) w → Q (.panic c) a w)
    (h : wpAnyT P md ops Q S T fuel (listed.setIfInBounds i true) (a.put (some d) v) w) : wpAnyT P md ops Q S T (fuel + 1) listed a w := by
  rw [← hd] at h
  exact wpAnyC_first hi hwt hT (Region.noSelect_spec hs) hQ fuel listed a w (Region.free_spec hi hf) (closed_of hc) (by simpa using hr) (.inl ⟨hw, hy⟩) hS h
theorem skip_c {i fuel : Nat} {oi : Oper} {listed : Array Bool} {a : Act} {w : World} (d : Nat) (hi : ops[i]? = some oi) (hd : oi.dst = some d) (hs : Region.noSelect ops = true) (hf : Region.free md ops listed i = true) (hr : (Region.ready md ops listed).contains i = true) (hc : closedB md ops listed = true)
    (hT : T i = false) (hwt : waitsC md ops T i = true) (hw : Region.wanted oi (yielded ops a.tmps) = false) (hS : S w) (hQ : ∀ c a w, Q (.panic c) (a.put oi.dst undef) w → Q (.panic c) a w)
    (h : wpAnyT P md ops Q S T fuel (listed.setIfInBounds i true) (a.put (some d) undef) w) : wpAnyT P md ops Q S T (fuel + 1) listed a w := by
  rw [← hd] at h
  exact wpAnyC_first hi hwt hT (Region.noSelect_spec hs) hQ fuel listed a w (Region.free_spec hi hf) (closed_of hc) (by simpa using hr) (.inr ⟨hw, rfl⟩) hS h
theorem take_p {i fuel : Nat} {oi : Oper} {listed : Array Bool} {a : Act} {w : World} (v : Value) (d : Nat) (hi : ops[i]? = some oi) (hd : oi.dst = some d) (hs : Region.noSelect ops = true) (hf : Region.free md ops listed i = true) (hr : (Region.ready md ops listed).contains i = true)
    (hw : Region.wanted oi (yielded ops a.tmps) = true) (hy : ∀ w, (execOp a.eval oi).run P w = .ok (.value v) w) (hQ : ∀ c a w, Q (.panic c) (a.put oi.dst v) w → Q (.panic c) a w)
    (h : wpAny P md ops Q fuel (listed.setIfInBounds i true) (a.put (some d) v) w) : wpAny P md ops Q (fuel + 1) listed a w := by
  rw [← hd] at h
  exact wpAny_take hi hs hf hr hQ (.inl ⟨hw, hy⟩) h
theorem wpAnyQ_first {i : Nat} {oi : Oper} {v : Value} (hi : ops[i]? = some oi) (hTi : T i = true) (hsel : ∀ (j : Nat) (o : Oper) cs b, ops[j]? = some o → o.op ≠ .select cs b)
    (hQ : ∀ c a w, Q (.panic c) (a.put oi.dst v) w → Q (.panic c) a w) :
    ∀ (fuel : Nat) (listed : Array Bool) (a : Act) (w : World),
      (∀ j oj, ops[j]? = some oj → j ≠ i → listed.getD j true = false → (∀ e ∈ oj.after, Region.binds md e = true → e.on ≠ i) → oi.apart ops oj = true) →
      i ∈ Region.ready md ops listed → YieldsIf P ops (fun _ => True) oi v a →
      wpAnyT P md ops Q S T fuel (listed.setIfInBounds i true) (a.put oi.dst v) w → wpAnyT P md ops Q S T (fuel + 1) listed a w := by
  intro fuel
  induction fuel with
  | zero =>
    intro listed a w _ hr hy H
    refine ⟨fun h => (by rw [h] at hr; cases hr), fun j hj => ?_⟩
    by_cases hji : j = i
    · subst hji; exact hy.wpOp hi trivial ⟨fun h => (by rw [hTi] at h; cases h), H⟩
    · have := ready_mono hj hji
      rw [H.1] at this
      cases this
  | succ fuel ih =>
    intro listed a w hfree hr hy H
    refine ⟨fun h => (by rw [h] at hr; cases hr), fun j hj => ?_⟩
    by_cases hji : j = i
    · subst hji; exact hy.wpOp hi trivial ⟨fun h => (by rw [hTi] at h; cases h), H⟩
    · have h1 := H.2 j (ready_mono hj hji)
      obtain ⟨hjun, oj, hoj, hall⟩ := mem_ready.1 hj
      have hnot : ∀ e ∈ oj.after, Region.binds md e = true → e.on ≠ i := fun e he hb heq => by
        have h1 := hall e he hb
        have h0 := (mem_ready.1 hr).1
        rw [heq] at h1
        rcases Nat.lt_or_ge i listed.size with h' | h'
        · simp [h'] at h0 h1; rw [h0] at h1; cases h1
        · simp [Array.getElem?_eq_none h'] at h1
      have h2 := wpOp_putIf hoj (hfree j oj hoj hji hjun hnot) (fun cs b => hsel i oi cs b hi) (fun cs b => hsel j oj cs b hoj) hQ hy h1
      have hfree' : ∀ k ok, ops[k]? = some ok → k ≠ i → (listed.setIfInBounds j true).getD k true = false →
          (∀ e ∈ ok.after, Region.binds md e = true → e.on ≠ i) → oi.apart ops ok = true := fun k ok hk hki hun hno => by
        refine hfree k ok hk hki ?_ hno
        by_cases hjk : j = k
        · subst hjk; exact hjun
        · rw [getD_set_ne true hjk] at hun; exact hun
      refine wpOp_mono (fun a' w' h3 => ⟨h3.2.1, ih (listed.setIfInBounds j true) a' w' hfree' (ready_mono hr (Ne.symm hji)) h3.1 ?_⟩) h2
      rw [Array.setIfInBounds_comm _ _ hji]
      exact h3.2.2
theorem take_q {i fuel : Nat} {oi : Oper} {listed : Array Bool} {a : Act} {w : World} (v : Value) (d : Nat) (hi : ops[i]? = some oi) (hd : oi.dst = some d) (hs : Region.noSelect ops = true) (hf : Region.free md ops listed i = true) (hr : (Region.ready md ops listed).contains i = true)
    (hT : T i = true) (hw : Region.wanted oi (yielded ops a.tmps) = true) (hy : ∀ w, (execOp a.eval oi).run P w = .ok (.value v) w) (hQ : ∀ c a w, Q (.panic c) (a.put oi.dst v) w → Q (.panic c) a w)
    (h : wpAnyT P md ops Q S T fuel (listed.setIfInBounds i true) (a.put (some d) v) w) : wpAnyT P md ops Q S T (fuel + 1) listed a w := by
  rw [← hd] at h
  exact wpAnyQ_first hi hT (Region.noSelect_spec hs) hQ fuel listed a w (Region.free_spec hi hf) (by simpa using hr) (.inl ⟨hw, fun w _ => hy w⟩) h
theorem any_twoC {i j fuel : Nat} {listed : Array Bool} {a : Act} {w : World} (hr : Region.ready md ops listed = [i, j])
    (h1 : wpOp P ops Q i (fun a' w' => S w' ∧ wpAnyT P md ops Q S T fuel (listed.setIfInBounds i true) a' w') a w) (h2 : wpOp P ops Q j (fun a' w' => S w' ∧ wpAnyT P md ops Q S T fuel (listed.setIfInBounds j true) a' w') a w) : wpAnyT P md ops Q S T (fuel + 1) listed a w :=
  ⟨fun h0 => (by rw [hr] at h0; cases h0), fun k hk => by
    rw [hr] at hk
    rcases List.mem_cons.1 hk with rfl | hk
    · exact wpOp_mono (fun a' w' h' => ⟨fun _ => h'.1, h'.2⟩) h1
    · rw [List.mem_singleton] at hk
      subst hk
      exact wpOp_mono (fun a' w' h' => ⟨fun _ => h'.1, h'.2⟩) h2⟩
end
end
end Go.Proofs.Ytbeihiokjhfepaa
