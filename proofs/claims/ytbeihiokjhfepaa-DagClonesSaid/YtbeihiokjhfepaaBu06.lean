/- Lemmas under the proofs of this place: IdsSort, Strs, Take. No statement is proved here. -/
import Derived.Test.YtbeihiokjhfepaaBu02
import Derived.Test.YtbeihiokjhfepaaBu04
import Derived.Test.YtbeihiokjhfepaaBu05
import Derived.Lib.SlicesCompact
import Derived.Sort.Walk0
import Derived.Deep.QuietTactic
import Derived.BigQuiet
import Derived.IntWalk
import Derived.OrdersHeld
import Derived.Great.BuildSlice
import Derived.Great.Walk
set_option linter.unusedVariables false
namespace Go.Proofs.Ytbeihiokjhfepaa
section
open Go.Op
def leB (x y : Bs) : Bool := decide (x ≤ y)
theorem leB_eq (x y : Bs) : leB x y = !bytesLess y x := by
  unfold leB
  rw [Proofs.bytesLess_eq, Bool.eq_iff_iff, decide_eq_true_eq]
  simp only [Bool.not_eq_true', decide_eq_false_iff_not]
  exact Iff.rfl
theorem leB_trans (a b c : Bs) (h1 : leB a b = true) (h2 : leB b c = true) : leB a c = true := by
  rw [leB_eq] at h1 h2 ⊢
  simp only [Bool.not_eq_true'] at h1 h2 ⊢
  cases h : bytesLess c a with
  | false => rfl
  | true =>
    by_cases e : b = a
    · rw [e, h] at h2; cases h2
    · rcases less_total b a e with h3 | h3
      · rw [h3] at h1; cases h1
      · have := less_trans _ _ _ h h3; rw [this] at h2; cases h2
theorem leB_total (a b : Bs) : (leB a b || leB b a) = true := by
  rw [leB_eq, leB_eq]
  cases h : bytesLess a b with
  | false => simp
  | true => rw [less_asymm h]; rfl
theorem leB_lt {a b : Bs} (h : leB a b = true) (hne : b ≠ a) : bytesLess a b = true := by
  rw [leB_eq, Bool.not_eq_true'] at h
  rcases less_total b a hne with h3 | h3
  · rw [h] at h3; cases h3
  · exact h3
end
section
open Go.RowKit
def scells (Ls : List Bs) : List Value := Ls.map fun L => .string (text L)
theorem scells_length (Ls : List Bs) : (scells Ls).length = Ls.length := by simp [scells]
theorem scells_append (Ls Ms : List Bs) : scells (Ls ++ Ms) = scells Ls ++ scells Ms := by simp [scells]
theorem scells_take (Ls : List Bs) (k : Nat) : (scells Ls).take k = scells (Ls.take k) := by simp [scells]
theorem scells_drop (Ls : List Bs) (k : Nat) : (scells Ls).drop k = scells (Ls.drop k) := by simp [scells]
theorem scells_one (Ls : List Bs) : ∀ u ∈ scells Ls, u.oneCell' = true := by
  intro u hu
  simp only [scells, List.mem_map] at hu
  obtain ⟨b, _, rfl⟩ := hu
  rfl
theorem scells_get (Ls : List Bs) (k : Nat) (h : k < Ls.length) : (scells Ls)[k]? = some (.string (text (Ls.getD k []))) := by
  simp [scells, List.getD, List.getElem?_eq_getElem h]
def SS (w : World) (B : Nat) (A : Option Addr) (Ls : List Bs) : Prop := Reads w B 1 A Ls.length (scells Ls)
theorem SS.at_ {w : World} {B : Nat} {A : Option Addr} {Ls : List Bs} (h : SS w B A Ls) (hn : 0 < Ls.length) : ∃ b off, A = some ⟨b, off, none⟩ ∧ b < B ∧ ∀ k, k < Ls.length → w.cell? ⟨b, off + k, none⟩ = some (.string (text (Ls.getD k []))) := by
  obtain ⟨ad, e, hb, hc⟩ := h.2 hn
  have h0 := hc 0 _ (scells_get Ls 0 hn)
  obtain ⟨b, off, p⟩ := ad
  have e0 : (⟨b, off, p⟩ : Addr).add 0 = ⟨b, off, p⟩ := by simp [Addr.add]
  rw [e0] at h0
  have hp : p = none := World.cell?_spot h0
  subst hp
  refine ⟨b, off, e, hb, fun k hk => ?_⟩
  have := hc k _ (scells_get Ls k hk)
  have ea : (⟨b, off, none⟩ : Addr).add k = ⟨b, off + k, none⟩ := by unfold Addr.add; split <;> simp_all
  rwa [ea] at this
theorem SS.below {w w' : World} {B : Nat} {A : Option Addr} {Ls : List Bs} (h : SS w B A Ls) (hb : Below B w w') : SS w' B A Ls := Reads.below h hb
theorem SS.more {w : World} {B B' : Nat} {A : Option Addr} {Ls : List Bs} (h : SS w B A Ls) (hB : B ≤ B') : SS w B' A Ls := Reads.more h hB
theorem SS.nil (w : World) (B : Nat) (A : Option Addr) : SS w B A [] := ⟨by simp [scells], fun h => by simp at h⟩
theorem SS.take {w : World} {B : Nat} {A : Option Addr} {Ls : List Bs} (h : SS w B A Ls) (k : Nat) (hk : k ≤ Ls.length) : SS w B A (Ls.take k) := by
  refine ⟨by rw [scells_length]; simp, fun h0 => ?_⟩
  obtain ⟨ad, e, hb', hcc⟩ := h.2 (by rw [List.length_take] at h0; omega)
  refine ⟨ad, e, hb', fun j u hu => hcc j u ?_⟩
  rw [← scells_take, List.getElem?_take] at hu
  split at hu
  · exact hu
  · cases hu
theorem SS.cut {w : World} {B : Nat} {A : Option Addr} {Ls : List Bs} (h : SS w B A Ls) {k c : Nat} (hk : k ≤ Ls.length) (hc : Ls.length ≤ c) : SS w B (if c = k then A else A.map (·.add (k * 1))) (Ls.drop k) := by
  have h1 := Reads.cut h hk hc
  unfold SS
  rw [List.length_drop, ← scells_drop]
  simpa using h1
theorem SS.lt {w : World} {B : Nat} {A : Option Addr} {Ls : List Bs} (h : SS w B A Ls) : SS w w.heap.size A Ls := by
  refine ⟨h.1, fun hn => ?_⟩
  obtain ⟨ad, e, hb, hc⟩ := h.2 hn
  refine ⟨ad, e, ?_, hc⟩
  have h0 := hc 0 _ (scells_get Ls 0 hn)
  have := World.block_lt_of_cell? w _ h0
  rwa [block_of_add] at this
theorem own_ss {w : World} {base : Nat} {A : Option Addr} {Ls : List Bs} {c : Nat} (h : w.ownsRow base 9 1 (.slice A Ls.length c) Ls.length (scells Ls)) : SS w w.heap.size A Ls := Reads.of_own h
theorem sown_form {w : World} {base : Nat} {v : Value} {n : Nat} {xs : List Value} (h : w.ownsRow base 9 1 v n xs) : ∃ A c, v = .slice A n c := by
  rcases h.2 with ⟨rfl, rfl⟩ | ⟨g, cap, cur, rfl, _⟩
  · exact ⟨none, 0, rfl⟩
  · exact ⟨_, _, rfl⟩
theorem sown_kept {w w' : World} {base n : Nat} {v : Value} {xs : List Value} (h : w.ownsRow base 9 1 v n xs) (hb : Below w.heap.size w w') : w'.ownsRow base 9 1 v n xs :=
  World.ownsRow.kept h (row := none) ⟨hb.os, hb.tape, hb.output, hb.size, fun i hi _ => hb.block i hi⟩ (Classical.em _)
theorem Try.infoStr : (Try.prog.info? 9).map (fun i => (i.zero, i.size, i.bytes)) = some (some (.string ⟨#[]⟩), 1, 16) := by kernel_rfl
def GivesStrs (Ls : List Bs) (w : World) (e : Ending) (w' : World) : Prop := ∃ A c, e = .returned (.slice A Ls.length c) ∧ SS w' w'.heap.size A Ls ∧ Ls.length ≤ c ∧ c ≤ 9223372036854775807 ∧ Below w.heap.size w w'
theorem sown_cap {w : World} {base n : Nat} {A : Option Addr} {c : Nat} {xs : List Value} (h : w.ownsRow base 9 1 (.slice A n c) n xs) : n ≤ c ∧ c ≤ 9223372036854775807 := by
  rcases h.2 with ⟨h', h0⟩ | ⟨g, cap, cur, h', _, _, hn, hm, _⟩
  · simp only [Value.slice.injEq] at h'
    omega
  · simp only [Value.slice.injEq] at h'
    have hm' : cap ≤ 9223372036854775807 := hm
    omega
theorem GivesStrs.own {Ls : List Bs} {w w' : World} {v : Value} {base : Nat} (h : w'.ownsRow base 9 1 v Ls.length (scells Ls)) (hb : Below w.heap.size w w') : GivesStrs Ls w (.returned v) w' := by
  obtain ⟨A, c, rfl⟩ := sown_form h
  obtain ⟨h1, h2⟩ := sown_cap h
  exact ⟨A, c, rfl, own_ss h, h1, h2, hb⟩
theorem text_size (L : Bs) : (text L).size = L.length := by
  show L.toArray.size = _
  simp
theorem text_less (L M : Bs) : Op.bytesLess (text L).toList (text M).toList = Op.bytesLess L M := by rw [text_toList, text_toList]
theorem sslice_front (A : Option Addr) (n c k : Nat) (W : World) (hk : k ≤ c) : (Instr.sliceAt 33 (.slice A n c) none (some (.int .i64 (k : Int))) none).run Try.prog W = .ok (.slice A k c) W := by
  have hu : Try.prog.underlying 33 = some (.slice (Try.prog.elem 33)) := by kernel_rfl
  have he : Try.prog.elem 33 = 9 := by kernel_rfl
  have hs : (sizeOf 9).run Try.prog W = .ok 1 W := by kernel_rfl
  have e : (k : Int).toNat = k := by omega
  have e0 : Option.map (fun x : Addr => x.add (0 * 1)) A = A := by
    rcases A with _ | x
    · rfl
    · simp [Addr.add]
  rw [run_sliceAt_slice _ _ _ _ _ _ hu, run_slice_h _ _ _ _ _ hu .i64 (k : Int) (by omega) (by omega), he, hs]
  simp only [Result.andThen_ok, e, sliced, e0]
  simp
theorem sslice_back (A : Option Addr) (n c k : Nat) (W : World) (hk : k ≤ n) : (Instr.sliceAt 33 (.slice A n c) (some (.int .i64 (k : Int))) none none).run Try.prog W = .ok (.slice (if c = k then A else A.map (fun x => x.add (k * 1))) (n - k) (c - k)) W := by
  have hu : Try.prog.underlying 33 = some (.slice (Try.prog.elem 33)) := by kernel_rfl
  have he : Try.prog.elem 33 = 9 := by kernel_rfl
  have hs : (sizeOf 9).run Try.prog W = .ok 1 W := by kernel_rfl
  have e : (k : Int).toNat = k := by omega
  rw [run_sliceAt_slice _ _ _ _ _ _ hu, run_slice_l _ _ _ _ _ hu .i64 (k : Int) (by omega) (by omega), he, hs]
  simp only [Result.andThen_ok, e, sliced]
end
section
open Go.RowKit
section
variable {P : Program} {ops : Array Oper} {Q : Exit → Act → World → Prop} {md : Region.Mode} {S : World → Prop} {T : Nat → Bool}
def wpAnyT (P : Program) (md : Region.Mode) (ops : Array Oper) (Q : Exit → Act → World → Prop) (S : World → Prop) (T : Nat → Bool) : Nat → Array Bool → Act → World → Prop
  | 0, listed, a, w => Region.ready md ops listed = [] ∧ Q .normal a w
  | fuel + 1, listed, a, w =>
    (Region.ready md ops listed = [] → Q .normal a w) ∧
    ∀ i ∈ Region.ready md ops listed, wpOp P ops Q i (fun a' w' => (T i = false → S w') ∧ wpAnyT P md ops Q S T fuel (listed.setIfInBounds i true) a' w') a w
theorem wpAny_of_T : ∀ (fuel : Nat) (listed : Array Bool) (a : Act) (w : World), wpAnyT P md ops Q S T fuel listed a w → wpAny P md ops Q fuel listed a w
  | 0, _, _, _, h => h
  | fuel + 1, _, _, _, h => ⟨h.1, fun i hi => wpOp_mono (fun a' w' h' => wpAny_of_T fuel _ a' w' h'.2) (h.2 i hi)⟩
def waits_ (md : Region.Mode) (ops : Array Oper) (T : Nat → Bool) (i : Nat) : Bool :=
  (List.range ops.size).all fun j => !T j || (match ops[j]? with | some o => o.after.any (fun e => Region.binds md e && e.on == i) | none => true)
theorem waits_spec {i j : Nat} {oj : Oper} (h : waits_ md ops T i = true) (hj : ops[j]? = some oj) (hT : T j = true) : ∃ e ∈ oj.after, Region.binds md e = true ∧ e.on = i := by
  unfold waits_ at h
  have hlt : j < ops.size := (Array.getElem?_eq_some_iff.1 hj).1
  have h1 := List.all_eq_true.1 h j (List.mem_range.2 hlt)
  rw [hT, hj] at h1
  simp only [Bool.not_true, Bool.false_or, Array.any_eq_true] at h1
  obtain ⟨k, hk, h2⟩ := h1
  rw [Bool.and_eq_true, beq_iff_eq] at h2
  exact ⟨oj.after[k], Array.getElem_mem hk, h2.1, h2.2⟩
theorem wpAnyT_first {i : Nat} {oi : Oper} {v : Value} (hi : ops[i]? = some oi) (hw : waits_ md ops T i = true) (hTi : T i = false) (hsel : ∀ (j : Nat) (o : Oper) cs b, ops[j]? = some o → o.op ≠ .select cs b)
    (hQ : ∀ c a w, Q (.panic c) (a.put oi.dst v) w → Q (.panic c) a w) :
    ∀ (fuel : Nat) (listed : Array Bool) (a : Act) (w : World),
      (∀ j oj, ops[j]? = some oj → j ≠ i → listed.getD j true = false → (∀ e ∈ oj.after, Region.binds md e = true → e.on ≠ i) → oi.apart ops oj = true) →
      i ∈ Region.ready md ops listed → YieldsIf P ops S oi v a → S w →
      wpAnyT P md ops Q S T fuel (listed.setIfInBounds i true) (a.put oi.dst v) w → wpAnyT P md ops Q S T (fuel + 1) listed a w := by
  intro fuel
  induction fuel with
  | zero =>
    intro listed a w _ hr hy hS H
    refine ⟨fun h => (by rw [h] at hr; cases hr), fun j hj => ?_⟩
    by_cases hji : j = i
    · subst hji; exact hy.wpOp hi hS ⟨fun _ => hS, H⟩
    · have := ready_mono hj hji
      rw [H.1] at this
      cases this
  | succ fuel ih =>
    intro listed a w hfree hr hy hS H
    refine ⟨fun h => (by rw [h] at hr; cases hr), fun j hj => ?_⟩
    by_cases hji : j = i
    · subst hji; exact hy.wpOp hi hS ⟨fun _ => hS, H⟩
    · have h1 := H.2 j (ready_mono hj hji)
      obtain ⟨hjun, oj, hoj, hall⟩ := mem_ready.1 hj
      have hnot : ∀ e ∈ oj.after, Region.binds md e = true → e.on ≠ i := fun e he hb heq => by
        have h1 := hall e he hb
        have h0 := (mem_ready.1 hr).1
        rw [heq] at h1
        rcases Nat.lt_or_ge i listed.size with h' | h'
        · simp [h'] at h0 h1; rw [h0] at h1; cases h1
        · simp [Array.getElem?_eq_none h'] at h1
      have hTj : T j = false := by
        cases hT : T j with
        | false => rfl
        | true =>
          obtain ⟨e, he, hb, heq⟩ := waits_spec hw hoj hT
          exact absurd heq (hnot e he hb)
      have h2 := wpOp_putIf hoj (hfree j oj hoj hji hjun hnot) (fun cs b => hsel i oi cs b hi) (fun cs b => hsel j oj cs b hoj) hQ hy h1
      have hfree' : ∀ k ok, ops[k]? = some ok → k ≠ i → (listed.setIfInBounds j true).getD k true = false →
          (∀ e ∈ ok.after, Region.binds md e = true → e.on ≠ i) → oi.apart ops ok = true := fun k ok hk hki hun hno => by
        refine hfree k ok hk hki ?_ hno
        by_cases hjk : j = k
        · subst hjk; exact hjun
        · rw [getD_set_ne true hjk] at hun; exact hun
      refine wpOp_mono (fun a' w' h3 => ⟨h3.2.1, ih (listed.setIfInBounds j true) a' w' hfree' (ready_mono hr (Ne.symm hji)) h3.1 (h3.2.1 hTj) ?_⟩) h2
      rw [Array.setIfInBounds_comm _ _ hji]
      exact h3.2.2
theorem any_take {i fuel : Nat} {oi : Oper} {listed listed' : Array Bool} {a a' : Act} {w : World} (v : Value) (hi : ops[i]? = some oi) (hs : Region.noSelect ops = true) (hf : Region.free md ops listed i = true) (hr : (Region.ready md ops listed).contains i = true)
    (hT : T i = false) (hwt : waits_ md ops T i = true) (hw : Region.wanted oi (yielded ops a.tmps) = true) (hy : ∀ w, S w → (execOp a.eval oi).run P w = .ok (.value v) w) (hS : S w) (ha : a.put oi.dst v = a') (hl : listed.setIfInBounds i true = listed') (hQ : ∀ c a w, Q (.panic c) (a.put oi.dst v) w → Q (.panic c) a w)
    (h : wpAnyT P md ops Q S T fuel listed' a' w) : wpAnyT P md ops Q S T (fuel + 1) listed a w := by
  subst ha hl
  exact wpAnyT_first hi hwt hT (Region.noSelect_spec hs) hQ fuel listed a w (Region.free_spec hi hf) (by simpa using hr) (.inl ⟨hw, hy⟩) hS h
theorem any_asT {fuel : Nat} {listed listed' : Array Bool} {a a' : Act} {w : World} (ha : a = a') (hl : listed = listed') (h : wpAnyT P md ops Q S T fuel listed' a' w) : wpAnyT P md ops Q S T fuel listed a w := by
  subst ha hl; exact h
theorem any_comes {i fuel : Nat} {listed : Array Bool} {a : Act} {w : World} (hr : Region.ready md ops listed = [i]) (h : wpOp P ops Q i (fun a' w' => S w' ∧ wpAnyT P md ops Q S T fuel (listed.setIfInBounds i true) a' w') a w) : wpAnyT P md ops Q S T (fuel + 1) listed a w :=
  ⟨fun h0 => (by rw [hr] at h0; cases h0), fun k hk => by
    rw [hr, List.mem_singleton] at hk
    subst hk
    exact wpOp_mono (fun a' w' h' => ⟨fun _ => h'.1, h'.2⟩) h⟩
def left_ (ops : Array Oper) (T : Nat → Bool) (listed : Array Bool) : Bool := (List.range ops.size).all fun j => T j || listed.getD j false
theorem any_left {fuel : Nat} {listed : Array Bool} {a : Act} {w : World} (hl : left_ ops T listed = true) (h : wpAny P md ops Q fuel listed a w) : wpAnyT P md ops Q S T fuel listed a w := by
  induction fuel generalizing listed a w with
  | zero => exact h
  | succ fuel ih =>
    refine ⟨h.1, fun i hi => wpOp_mono (fun a' w' h' => ⟨fun hf => ?_, ih ?_ h'⟩) (h.2 i hi)⟩
    · obtain ⟨hu, o, ho, _⟩ := mem_ready.1 hi
      have hlt := (Array.getElem?_eq_some_iff.1 ho).1
      have h1 := List.all_eq_true.1 hl i (List.mem_range.2 hlt)
      rw [hf, Bool.false_or] at h1
      rcases Nat.lt_or_ge i listed.size with h' | h'
      · simp [Array.getD, h'] at h1 hu; rw [h1] at hu; cases hu
      · simp [Array.getD, Nat.not_lt.2 h'] at h1
    · unfold left_ at hl ⊢
      rw [List.all_eq_true] at hl ⊢
      intro j hj
      have := hl j hj
      rw [Bool.or_eq_true] at this ⊢
      rcases this with h1 | h1
      · exact .inl h1
      · refine .inr ?_
        by_cases hij : i = j
        · subst hij
          rcases Nat.lt_or_ge i listed.size with h' | h'
          · simp [Array.getD, h']
          · simp [Array.getD, Nat.not_lt.2 h'] at h1
        · rw [getD_set_ne false hij]; exact h1
theorem region_T (S : World → Prop) (T : Nat → Bool) {id : Nat} {a : Act} {w : World} (hm : P.follows .mixedOrders = true) (h : wpAnyT P .any ops Q S T ops.size (Array.replicate ops.size false) a w.drew) : (Code.region id ops true).wp P Q a w :=
  wp_region_any hm (wpAny_of_T _ _ _ _ h)
end
section
variable {P : Program} {ops : Array Oper} {Q : Exit → Act → World → Prop} {md : Region.Mode}
theorem cell_run {o : Oper} {a : Act} {w : World} (ty : TypeId) (x : Operand) (p : Addr) (v : Value) (d : TypeDesc) (ho : o.op = .load ty x) (hx : a.eval x = .pointer (some p)) (hc : w.cell? p = some v) (hu : P.underlying ty = some d) (hd : d.isRow = false) (hi : (P.info? ty).map (·.size) = some 1) : (execOp a.eval o).run P w = .ok (.value v) w := by
  cases hq : P.info? ty with
  | none => simp [hq] at hi
  | some i =>
    have hs : i.size = 1 := by simpa [hq] using hi
    have hagg : (isAgg ty).run P w = .ok false w := by
      unfold isAgg
      rw [Sem.run_bind, run_underlying hu w]
      cases d <;> simp_all [TypeDesc.isRow]
    unfold execOp
    simp [ho, hx, Instr.loadAt, Instr.sureAddr, loadVar, sizeOf, typeInfo, hq, hs, hagg, hc]
theorem slice_run {o : Oper} {a : Act} {w : World} (t : TypeId) (x : Operand) (lo hi : Option Operand) (ho : o.op = .slice t x lo hi none) (v : Value) (xv : Value) (lv hv : Option Value) (h1 : a.eval x = xv) (h2 : lo.map a.eval = lv) (h3 : hi.map a.eval = hv)
    (hy : (Instr.sliceAt t xv lv hv none).run P w = .ok v w) : (execOp a.eval o).run P w = .ok (.value v) w := by
  subst h1 h2 h3
  unfold execOp
  simp only [ho, Option.map_none, Sem.run_bind]
  rw [hy]
  rfl
end
end
end Go.Proofs.Ytbeihiokjhfepaa
