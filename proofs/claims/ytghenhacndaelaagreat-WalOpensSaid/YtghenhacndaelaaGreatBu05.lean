/- Lemmas under the proofs of this place: SlB, WalPlain, Take, Cur, Unfix, BytesFns. No statement is proved here. -/
import Derived.Test.YtghenhacndaelaaGreatBu03
import Derived.Test.YtghenhacndaelaaGreatBu01
import Derived.OrdersHeld
import Derived.Great.BuildSlice
import Derived.Great.Walk
import Derived.Lib.Hide
import Derived.Laws.CopyOwn
import Derived.Lib.SliceRun
set_option linter.unusedSimpArgs false
set_option linter.unusedVariables false
set_option maxRecDepth 100000
set_option maxHeartbeats 16000000
namespace Go.Proofs.YtghenhacndaelaaGreat
section
open Go.RowKit
theorem add_at (a off s : Nat) : (⟨a, off, none⟩ : Addr).add s = ⟨a, off + s, none⟩ := by unfold Addr.add; split <;> simp_all
theorem sl_from (a off n c s : Nat) (i : Int) (hi : i = (s : Int)) (h1 : s ≤ n) (h2 : s < c) (W : World) :
    (Instr.sliceAt 39 (.slice (some ⟨a, off, none⟩) n c) (some (.int .i64 i)) none none).run Tryz.prog W = .ok (.slice (some ⟨a, off + s, none⟩) (n - s) (c - s)) W := by
  subst hi
  have hu : Tryz.prog.underlying 39 = some (.slice (Tryz.prog.elem 39)) := by kernel_rfl
  have he : Tryz.prog.elem 39 = 5 := by kernel_rfl
  have hsz : (sizeOf 5).run Tryz.prog W = .ok 1 W := by kernel_rfl
  have e : (s : Int).toNat = s := by omega
  rw [run_sliceAt_slice _ _ _ _ _ _ hu, run_slice_l _ _ _ _ _ hu .i64 (s : Int) (by omega) (by omega), he, hsz]
  simp only [Result.andThen_ok, e, sliced]
  rw [if_neg (show ¬ c = s by omega)]
  simp only [Option.map_some, Nat.mul_one, add_at]
theorem sl_to (a off n c h : Nat) (j : Int) (hj : j = (h : Int)) (h1 : h ≤ c) (h0 : 0 < c) (W : World) :
    (Instr.sliceAt 39 (.slice (some ⟨a, off, none⟩) n c) none (some (.int .i64 j)) none).run Tryz.prog W = .ok (.slice (some ⟨a, off, none⟩) h c) W := by
  subst hj
  have hu : Tryz.prog.underlying 39 = some (.slice (Tryz.prog.elem 39)) := by kernel_rfl
  have he : Tryz.prog.elem 39 = 5 := by kernel_rfl
  have hsz : (sizeOf 5).run Tryz.prog W = .ok 1 W := by kernel_rfl
  have e : (h : Int).toNat = h := by omega
  rw [run_sliceAt_slice _ _ _ _ _ _ hu, run_slice_h _ _ _ _ _ hu .i64 (h : Int) (by omega) (by omega), he, hsz]
  simp only [Result.andThen_ok, e, sliced]
  rw [if_neg (show ¬ c = 0 by omega)]
  simp only [Option.map_some, Nat.zero_mul, add_at, Nat.add_zero, Nat.sub_zero]
theorem sl_both (a off n c s h : Nat) (i j : Int) (hi : i = (s : Int)) (hj : j = (h : Int)) (h1 : s ≤ h) (h2 : h ≤ c) (h3 : s < c) (W : World) :
    (Instr.sliceAt 39 (.slice (some ⟨a, off, none⟩) n c) (some (.int .i64 i)) (some (.int .i64 j)) none).run Tryz.prog W = .ok (.slice (some ⟨a, off + s, none⟩) (h - s) (c - s)) W := by
  subst hi hj
  have hu : Tryz.prog.underlying 39 = some (.slice (Tryz.prog.elem 39)) := by kernel_rfl
  have he : Tryz.prog.elem 39 = 5 := by kernel_rfl
  have hsz : (sizeOf 5).run Tryz.prog W = .ok 1 W := by kernel_rfl
  have e : (h : Int).toNat = h := by omega
  have e2 : (s : Int).toNat = s := by omega
  rw [run_sliceAt_slice _ _ _ _ _ _ hu, run_slice_lh _ _ _ _ _ hu .i64 .i64 (s : Int) (h : Int) (by omega) (by omega) (by omega), he, hsz]
  simp only [Result.andThen_ok, e, e2, sliced]
  rw [if_neg (show ¬ c = s by omega)]
  simp only [Option.map_some, Nat.mul_one, add_at]
end
section
namespace Wal
abbrev Sec := Nat → Sd × Int
def scanR (sec : Sec) (at_ : Nat) (least most : Int) : Nat → Nat → List Sd → Option (List Sd)
  | 0, _, l => some l
  | f + 1, n, l =>
    if (sec (at_ + n)).2 ≠ 0 ∨ (sec (at_ + n)).1.number ≠ ((at_ + n : Nat) : Int) ∨ (n = 0 ∧ ¬ ((sec (at_ + n)).1.kind = 2 ∧ least ≤ (sec (at_ + n)).1.epoch ∧ (sec (at_ + n)).1.epoch ≤ most)) then none
    else if (sec (at_ + n)).1.left = 0 then some (l ++ [(sec (at_ + n)).1]) else scanR sec at_ least most f (n + 1) (l ++ [(sec (at_ + n)).1])
def recordW (sec : Sec) (N at_ : Nat) (least most : Int) : Option (List UInt8 × Nat) :=
  match scanR sec at_ least most (N - at_) 0 [] with
  | none => none
  | some l => if (joinS l).2 = true then some ((joinS l).1, l.length) else none
def recordsW (sec : Sec) (N : Nat) (least most : Int) : Nat → Nat → List (List UInt8) × Nat
  | 0, a => ([], a)
  | f + 1, a => match recordW sec N a least most with
    | none => ([], a)
    | some (t, n) => (t :: (recordsW sec N least most f (a + n)).1, (recordsW sec N least most f (a + n)).2)
def base (at_ : Nat) (e : Int) : Sd := ⟨2, e, (at_ : Int), 0, []⟩
def partW (at_ : Nat) (e : Int) (t : List UInt8) (i : Nat) : Sd := (base at_ e).part t (needN t.length) i
def RecAt (sec : Sec) (N at_ : Nat) (e : Int) (t : List UInt8) : Prop :=
  0 < needN t.length ∧ needN t.length ≤ 65536 ∧ at_ + needN t.length ≤ N ∧ ∀ i, i < needN t.length → sec (at_ + i) = (partW at_ e t i, 0)
def Sane (sec : Sec) : Prop := ∀ j, (sec j).2 = 0 → (sec j).1.may = true
section
variable {sec sec' : Sec} {N at_ u : Nat} {e least most : Int} {t : List UInt8} {R : List (List UInt8)}
theorem part_number (i : Nat) : (partW at_ e t i).number = ((at_ + i : Nat) : Int) := by
  show (at_ : Int) + (i : Int) = _
  omega
theorem part_left (i : Nat) : (partW at_ e t i).left = ((needN t.length - 1 - i : Nat) : Int) := rfl
theorem part_kind (i : Nat) : (partW at_ e t i).kind = if i = 0 then 2 else 3 := rfl
theorem scan_rec (h : RecAt sec N at_ e t) (h1 : least ≤ e) (h2 : e ≤ most) : ∀ (f k : Nat) (l : List Sd), k < needN t.length → needN t.length - k ≤ f → scanR sec at_ least most f k l = some (l ++ (List.range (needN t.length - k)).map fun i => partW at_ e t (k + i))
  | 0, k, l, hk, hf => by omega
  | f + 1, k, l, hk, hf => by
    have hs := h.2.2.2 k hk
    rw [scanR, hs, if_neg, part_left]
    · by_cases hl : k + 1 = needN t.length
      · rw [if_pos (by omega), show needN t.length - k = 1 by omega]
        rfl
      · rw [if_neg (by omega), scan_rec h h1 h2 f (k + 1) _ (by omega) (by omega)]
        rw [List.append_assoc, show needN t.length - k = (needN t.length - (k + 1)) + 1 by omega, List.range_succ_eq_map]
        simp only [List.map_cons, List.map_map, List.cons_append, List.nil_append, Nat.add_zero]
        congr 3
        refine List.map_congr_left fun i _ => ?_
        simp only [Function.comp]
        congr 1
        omega
    · rintro (h3 | h3 | ⟨rfl, h3⟩)
      · exact h3 rfl
      · exact h3 (part_number k)
      · exact h3 ⟨rfl, h1, h2⟩
theorem split_rec (hsn : Sane sec) (h : RecAt sec N at_ e t) : splitS (base at_ e) t = ((List.range (needN t.length)).map (partW at_ e t), 0) := by
  unfold splitS
  have h0 := h.1
  rw [if_neg (by omega), if_neg (by have := h.2.1; omega), if_pos]
  · rfl
  · refine List.all_eq_true.2 fun i hi => ?_
    have hi' := List.mem_range.1 hi
    have h2 := hsn (at_ + i) (by rw [h.2.2.2 i hi'])
    rw [h.2.2.2 i hi'] at h2
    exact h2
theorem rec_of (hsn : Sane sec) (h : RecAt sec N at_ e t) (h1 : least ≤ e) (h2 : e ≤ most) : recordW sec N at_ least most = some (t, needN t.length) := by
  have hN := h.2.2.1
  have h0 := h.1
  have hsp := split_rec hsn h
  have hj := join_split (base at_ e) t (by rw [hsp])
  rw [hsp] at hj
  unfold recordW
  rw [scan_rec h h1 h2 (N - at_) 0 [] h0 (by omega)]
  simp only [List.nil_append, Nat.sub_zero, Nat.zero_add]
  rw [hj]
  simp
theorem scan_some : ∀ (f k : Nat) (l m : List Sd), scanR sec at_ least most f k l = some m → ∃ n, n ≤ f ∧ m = l ++ (List.range n).map (fun i => (sec (at_ + (k + i))).1) ∧ (∀ i, i < n → (sec (at_ + (k + i))).2 = 0 ∧ (sec (at_ + (k + i))).1.number = ((at_ + (k + i) : Nat) : Int)) ∧ (k = 0 → 0 < n → (sec at_).1.kind = 2 ∧ least ≤ (sec at_).1.epoch ∧ (sec at_).1.epoch ≤ most)
  | 0, k, l, m, h => by
    rw [scanR] at h
    injection h with h
    exact ⟨0, Nat.le_refl _, by simp [h], fun i hi => by omega, fun _ h0 => by omega⟩
  | f + 1, k, l, m, h => by
    rw [scanR] at h
    split at h
    · cases h
    · rename_i hc
      have c1 : (sec (at_ + k)).2 = 0 := Classical.byContradiction fun hh => hc (.inl hh)
      have c2 : (sec (at_ + k)).1.number = ((at_ + k : Nat) : Int) := Classical.byContradiction fun hh => hc (.inr (.inl hh))
      have c3 : k = 0 → (sec at_).1.kind = 2 ∧ least ≤ (sec at_).1.epoch ∧ (sec at_).1.epoch ≤ most := fun hk => Classical.byContradiction fun hh => hc (.inr (.inr ⟨hk, by subst hk; exact hh⟩))
      split at h
      · injection h with h
        refine ⟨1, by omega, ?_, fun i hi => ?_, fun hk _ => c3 hk⟩
        · rw [← h]; rfl
        · obtain rfl : i = 0 := by omega
          exact ⟨c1, c2⟩
      · obtain ⟨n, hn, e1, e2, _⟩ := scan_some f (k + 1) _ m h
        refine ⟨n + 1, by omega, ?_, fun i hi => ?_, fun hk _ => c3 hk⟩
        · rw [e1, List.append_assoc, List.range_succ_eq_map]
          simp only [List.map_cons, List.map_map, List.cons_append, List.nil_append, Nat.add_zero]
          congr 3
          funext i
          simp only [Function.comp]
          rw [show k + 1 + i = k + (i + 1) by omega]
        · rcases Nat.eq_zero_or_pos i with h0 | h0
          · subst h0; exact ⟨c1, c2⟩
          · have := e2 (i - 1) (by omega)
            rwa [show k + 1 + (i - 1) = k + i by omega] at this
theorem rec_only {n : Nat} (h : recordW sec N at_ least most = some (t, n)) : ∃ e, least ≤ e ∧ e ≤ most ∧ RecAt sec N at_ e t ∧ n = needN t.length := by
  unfold recordW at h
  cases hs : scanR sec at_ least most (N - at_) 0 [] with
  | none => rw [hs] at h; cases h
  | some l =>
    rw [hs] at h
    simp only [] at h
    split at h
    · rename_i hj
      simp only [Option.some.injEq, Prod.mk.injEq] at h
      obtain ⟨h1, h2⟩ := h
      obtain ⟨m, hm, e1, e2, e3⟩ := scan_some _ _ _ _ hs
      rw [List.nil_append] at e1
      have hlen : l.length = m := by rw [e1]; simp
      unfold joinS at hj h1
      cases l with
      | nil => cases hj
      | cons x r =>
        simp only [] at hj h1
        by_cases hsp : splitS x ((x :: r).flatMap (·.data)) = (x :: r, 0)
        · rw [if_pos hsp] at h1
          simp only [] at h1
          rw [h1] at hsp
          have hm0 : 0 < m := by rw [← hlen]; simp
          have hx : x = (sec at_).1 := by
            have h5 := congrArg (fun l => l[0]?) e1
            simp only [List.getElem?_cons_zero, List.getElem?_map, List.getElem?_range hm0, Option.map_some, Option.some.injEq] at h5
            rw [h5]
            rfl
          obtain ⟨k1, k2, k3⟩ := e3 rfl hm0
          have k4 := e2 0 hm0
          rw [Nat.zero_add, Nat.add_zero] at k4
          refine ⟨(sec at_).1.epoch, k2, k3, ?_, ?_⟩
          · have hsc := split_cases x t
            rcases hsc with ⟨h6, h7⟩ | ⟨_, h7⟩
            · rw [hsp] at h6
              simp only [Prod.mk.injEq, and_true] at h6
              have hmn : m = needN t.length := by rw [← hlen, h6]; simp
              refine ⟨by omega, ?_, by omega, fun i hi => ?_⟩
              · unfold splitS at hsp
                rw [if_neg h7] at hsp
                by_cases hb : 65536 < needN t.length
                · rw [if_pos hb] at hsp; simp at hsp
                · omega
              · have h8 := e2 i (by omega)
                rw [Nat.zero_add] at h8
                have h9 : (sec (at_ + i)).1 = x.part t (needN t.length) i := by
                  have h5 := congrArg (fun l => l[i]?) (e1.symm.trans h6)
                  simp only [List.getElem?_map, List.getElem?_range hi, List.getElem?_range (show i < m by omega), Option.map_some, Option.some.injEq, Nat.zero_add] at h5
                  exact h5
                refine Prod.ext ?_ h8.1
                show (sec (at_ + i)).1 = partW at_ _ t i
                rw [h9, hx]
                unfold partW base Sd.part
                simp only [Sd.mk.injEq, and_true, true_and]
                refine ⟨by rw [k1], by rw [k4.2]⟩
            · rw [hsp] at h7; exact absurd rfl h7
          · rw [← h2, hlen]
            have h6 := (split_cases x t)
            rcases h6 with ⟨h6, _⟩ | ⟨_, h7⟩
            · rw [hsp] at h6
              simp only [Prod.mk.injEq, and_true] at h6
              rw [← hlen, h6]; simp
            · rw [hsp] at h7; exact absurd rfl h7
        · rw [if_neg hsp] at hj; cases hj
    · cases h
end
end Wal
end
section
open Go.RowKit
section
variable {P : Program} {ops : Array Oper} {Q : Exit → Act → World → Prop} {md : Region.Mode} {S : World → Prop} {T : Nat → Bool}
def wpAnyT (P : Program) (md : Region.Mode) (ops : Array Oper) (Q : Exit → Act → World → Prop) (S : World → Prop) (T : Nat → Bool) : Nat → Array Bool → Act → World → Prop
  | 0, listed, a, w => Region.ready md ops listed = [] ∧ Q .normal a w
  | fuel + 1, listed, a, w =>
    (Region.ready md ops listed = [] → Q .normal a w) ∧
    ∀ i ∈ Region.ready md ops listed, wpOp P ops Q i (fun a' w' => (T i = false → S w') ∧ wpAnyT P md ops Q S T fuel (listed.setIfInBounds i true) a' w') a w
theorem wpAny_of_T : ∀ (fuel : Nat) (listed : Array Bool) (a : Act) (w : World), wpAnyT P md ops Q S T fuel listed a w → wpAny P md ops Q fuel listed a w
  | 0, _, _, _, h => h
  | fuel + 1, _, _, _, h => ⟨h.1, fun i hi => wpOp_mono (fun a' w' h' => wpAny_of_T fuel _ a' w' h'.2) (h.2 i hi)⟩
def waits_ (md : Region.Mode) (ops : Array Oper) (T : Nat → Bool) (i : Nat) : Bool :=
  (List.range ops.size).all fun j => !T j || (match ops[j]? with | some o => o.after.any (fun e => Region.binds md e && e.on == i) | none => true)
theorem waits_spec {i j : Nat} {oj : Oper} (h : waits_ md ops T i = true) (hj : ops[j]? = some oj) (hT : T j = true) : ∃ e ∈ oj.after, Region.binds md e = true ∧ e.on = i := by
  unfold waits_ at h
  have hlt : j < ops.size := (Array.getElem?_eq_some_iff.1 hj).1
  have h1 := List.all_eq_true.1 h j (List.mem_range.2 hlt)
  rw [hT, hj] at h1
  simp only [Bool.not_true, Bool.false_or, Array.any_eq_true] at h1
  obtain ⟨k, hk, h2⟩ := h1
  rw [Bool.and_eq_true, beq_iff_eq] at h2
  exact ⟨oj.after[k], Array.getElem_mem hk, h2.1, h2.2⟩
theorem wpAnyT_first {i : Nat} {oi : Oper} {v : Value} (hi : ops[i]? = some oi) (hw : waits_ md ops T i = true) (hTi : T i = false) (hsel : ∀ (j : Nat) (o : Oper) cs b, ops[j]? = some o → o.op ≠ .select cs b)
    (hQ : ∀ c a w, Q (.panic c) (a.put oi.dst v) w → Q (.panic c) a w) :
    ∀ (fuel : Nat) (listed : Array Bool) (a : Act) (w : World),
      (∀ j oj, ops[j]? = some oj → j ≠ i → listed.getD j true = false → (∀ e ∈ oj.after, Region.binds md e = true → e.on ≠ i) → oi.apart ops oj = true) →
      i ∈ Region.ready md ops listed → YieldsIf P ops S oi v a → S w →
      wpAnyT P md ops Q S T fuel (listed.setIfInBounds i true) (a.put oi.dst v) w → wpAnyT P md ops Q S T (fuel + 1) listed a w := by
  intro fuel
  induction fuel with
  | zero =>
    intro listed a w _ hr hy hS H
    refine ⟨fun h => (by rw [h] at hr; cases hr), fun j hj => ?_⟩
    by_cases hji : j = i
    · subst hji; exact hy.wpOp hi hS ⟨fun _ => hS, H⟩
    · have := ready_mono hj hji
      rw [H.1] at this
      cases this
  | succ fuel ih =>
    intro listed a w hfree hr hy hS H
    refine ⟨fun h => (by rw [h] at hr; cases hr), fun j hj => ?_⟩
    by_cases hji : j = i
    · subst hji; exact hy.wpOp hi hS ⟨fun _ => hS, H⟩
    · have h1 := H.2 j (ready_mono hj hji)
      obtain ⟨hjun, oj, hoj, hall⟩ := mem_ready.1 hj
      have hnot : ∀ e ∈ oj.after, Region.binds md e = true → e.on ≠ i := fun e he hb heq => by
        have h1 := hall e he hb
        have h0 := (mem_ready.1 hr).1
        rw [heq] at h1
        rcases Nat.lt_or_ge i listed.size with h' | h'
        · simp [h'] at h0 h1; rw [h0] at h1; cases h1
        · simp [Array.getElem?_eq_none h'] at h1
      have hTj : T j = false := by
        cases hT : T j with
        | false => rfl
        | true =>
          obtain ⟨e, he, hb, heq⟩ := waits_spec hw hoj hT
          exact absurd heq (hnot e he hb)
      have h2 := wpOp_putIf hoj (hfree j oj hoj hji hjun hnot) (fun cs b => hsel i oi cs b hi) (fun cs b => hsel j oj cs b hoj) hQ hy h1
      have hfree' : ∀ k ok, ops[k]? = some ok → k ≠ i → (listed.setIfInBounds j true).getD k true = false →
          (∀ e ∈ ok.after, Region.binds md e = true → e.on ≠ i) → oi.apart ops ok = true := fun k ok hk hki hun hno => by
        refine hfree k ok hk hki ?_ hno
        by_cases hjk : j = k
        · subst hjk; exact hjun
        · rw [getD_set_ne true hjk] at hun; exact hun
      refine wpOp_mono (fun a' w' h3 => ⟨h3.2.1, ih (listed.setIfInBounds j true) a' w' hfree' (ready_mono hr (Ne.symm hji)) h3.1 (h3.2.1 hTj) ?_⟩) h2
      rw [Array.setIfInBounds_comm _ _ hji]
      exact h3.2.2
theorem any_take {i fuel : Nat} {oi : Oper} {listed listed' : Array Bool} {a a' : Act} {w : World} (v : Value) (hi : ops[i]? = some oi) (hs : Region.noSelect ops = true) (hf : Region.free md ops listed i = true) (hr : (Region.ready md ops listed).contains i = true)
    (hT : T i = false) (hwt : waits_ md ops T i = true) (hw : Region.wanted oi (yielded ops a.tmps) = true) (hy : ∀ w, S w → (execOp a.eval oi).run P w = .ok (.value v) w) (hS : S w) (ha : a.put oi.dst v = a') (hl : listed.setIfInBounds i true = listed') (hQ : ∀ c a w, Q (.panic c) (a.put oi.dst v) w → Q (.panic c) a w)
    (h : wpAnyT P md ops Q S T fuel listed' a' w) : wpAnyT P md ops Q S T (fuel + 1) listed a w := by
  subst ha hl
  exact wpAnyT_first hi hwt hT (Region.noSelect_spec hs) hQ fuel listed a w (Region.free_spec hi hf) (by simpa using hr) (.inl ⟨hw, hy⟩) hS h
theorem any_asT {fuel : Nat} {listed listed' : Array Bool} {a a' : Act} {w : World} (ha : a = a') (hl : listed = listed') (h : wpAnyT P md ops Q S T fuel listed' a' w) : wpAnyT P md ops Q S T fuel listed a w := by
  subst ha hl; exact h
theorem any_comes {i fuel : Nat} {listed : Array Bool} {a : Act} {w : World} (hr : Region.ready md ops listed = [i]) (h : wpOp P ops Q i (fun a' w' => S w' ∧ wpAnyT P md ops Q S T fuel (listed.setIfInBounds i true) a' w') a w) : wpAnyT P md ops Q S T (fuel + 1) listed a w :=
  ⟨fun h0 => (by rw [hr] at h0; cases h0), fun k hk => by
    rw [hr, List.mem_singleton] at hk
    subst hk
    exact wpOp_mono (fun a' w' h' => ⟨fun _ => h'.1, h'.2⟩) h⟩
def left_ (ops : Array Oper) (T : Nat → Bool) (listed : Array Bool) : Bool := (List.range ops.size).all fun j => T j || listed.getD j false
theorem any_left {fuel : Nat} {listed : Array Bool} {a : Act} {w : World} (hl : left_ ops T listed = true) (h : wpAny P md ops Q fuel listed a w) : wpAnyT P md ops Q S T fuel listed a w := by
  induction fuel generalizing listed a w with
  | zero => exact h
  | succ fuel ih =>
    refine ⟨h.1, fun i hi => wpOp_mono (fun a' w' h' => ⟨fun hf => ?_, ih ?_ h'⟩) (h.2 i hi)⟩
    · obtain ⟨hu, o, ho, _⟩ := mem_ready.1 hi
      have hlt := (Array.getElem?_eq_some_iff.1 ho).1
      have h1 := List.all_eq_true.1 hl i (List.mem_range.2 hlt)
      rw [hf, Bool.false_or] at h1
      rcases Nat.lt_or_ge i listed.size with h' | h'
      · simp [Array.getD, h'] at h1 hu; rw [h1] at hu; cases hu
      · simp [Array.getD, Nat.not_lt.2 h'] at h1
    · unfold left_ at hl ⊢
      rw [List.all_eq_true] at hl ⊢
      intro j hj
      have := hl j hj
      rw [Bool.or_eq_true] at this ⊢
      rcases this with h1 | h1
      · exact .inl h1
      · refine .inr ?_
        by_cases hij : i = j
        · subst hij
          rcases Nat.lt_or_ge i listed.size with h' | h'
          · simp [Array.getD, h']
          · simp [Array.getD, Nat.not_lt.2 h'] at h1
        · rw [getD_set_ne false hij]; exact h1
theorem region_T (S : World → Prop) (T : Nat → Bool) {id : Nat} {a : Act} {w : World} (hm : P.follows .mixedOrders = true) (h : wpAnyT P .any ops Q S T ops.size (Array.replicate ops.size false) a w.drew) : (Code.region id ops true).wp P Q a w :=
  wp_region_any hm (wpAny_of_T _ _ _ _ h)
end
section
variable {P : Program} {ops : Array Oper} {Q : Exit → Act → World → Prop} {md : Region.Mode}
theorem fill_whole {s : Nat} (hs : 0 < s) (WA cells : Array Value) (h1 : WA.size = s) (h2 : cells.size = s) : Instr.fill (fun i => some (i * s, s)) cells [(0, .agg WA)] = some WA := by
  obtain ⟨r, hr, hsz, hk⟩ := Great.fill_dense hs [.agg WA] 0 cells (fun v hv => by rw [List.mem_singleton] at hv; subst hv; exact h1) (by simp [h2])
  have e : r = WA := by
    apply Array.ext_getElem?
    intro k
    rw [hk k]
    by_cases hlt : k < s
    · rw [if_pos (by simp; omega)]
      simp only [Nat.div_eq_of_lt hlt, Nat.mod_eq_of_lt hlt, Nat.sub_self, List.getElem?_cons_zero, Option.bind_some, Value.cells]
    · rw [if_neg (by simp; omega), Array.getElem?_eq_none (by omega), Array.getElem?_eq_none (by omega)]
  rw [e] at hr
  exact hr
theorem build_run {o : Oper} {a : Act} {w : World} (t e : TypeId) (x : Operand) (ho : o.op = .buildSlice t 1 #[(0, x)]) (WA : Array Value) (hx : a.eval x = .agg WA) (hu : P.underlying t = some (.slice e)) (s : Nat) (hsz : (P.info? e).map (·.size) = some s)
    (hz : ((P.info? e).bind (·.zero)).isSome = true) (hs : 0 < s) (hs2 : s ≤ 16777216) (hA : WA.size = s) : (execOp a.eval o).run P w = .ok (.value (.slice (some ⟨w.heap.size, 0, none⟩) 1 1)) (w.alloc (.cells WA e)) := by
  cases hie : P.info? e with
  | none => simp [hie] at hsz
  | some ie =>
    simp only [hie, Option.map_some, Option.some.injEq, Option.bind_some] at hsz hz
    obtain ⟨z, hzz⟩ := Option.isSome_iff_exists.1 hz
    unfold execOp
    simp only [ho, Sem.run_bind]
    rw [run_buildSlice w t e 1 _ WA ie z hu hie hzz (by rw [hsz]; omega) (by rw [hsz]; omega) ?_]
    · simp
    · simp only [List.map_toArray, List.map_cons, List.map_nil, hx, Nat.one_mul, hsz]
      exact fill_whole hs WA _ hA (by simp)
theorem cell_run {o : Oper} {a : Act} {w : World} (ty : TypeId) (x : Operand) (p : Addr) (v : Value) (d : TypeDesc) (ho : o.op = .load ty x) (hx : a.eval x = .pointer (some p)) (hc : w.cell? p = some v) (hu : P.underlying ty = some d) (hd : d.isRow = false) (hi : (P.info? ty).map (·.size) = some 1) : (execOp a.eval o).run P w = .ok (.value v) w := by
  cases hq : P.info? ty with
  | none => simp [hq] at hi
  | some i =>
    have hs : i.size = 1 := by simpa [hq] using hi
    have hagg : (isAgg ty).run P w = .ok false w := by
      unfold isAgg
      rw [Sem.run_bind, run_underlying hu w]
      cases d <;> simp_all [TypeDesc.isRow]
    unfold execOp
    simp [ho, hx, Instr.loadAt, Instr.sureAddr, loadVar, sizeOf, typeInfo, hq, hs, hagg, hc]
theorem slice_run {o : Oper} {a : Act} {w : World} (t : TypeId) (x : Operand) (lo hi : Option Operand) (ho : o.op = .slice t x lo hi none) (v : Value) (xv : Value) (lv hv : Option Value) (h1 : a.eval x = xv) (h2 : lo.map a.eval = lv) (h3 : hi.map a.eval = hv)
    (hy : (Instr.sliceAt t xv lv hv none).run P w = .ok v w) : (execOp a.eval o).run P w = .ok (.value v) w := by
  subst h1 h2 h3
  unfold execOp
  simp only [ho, Option.map_none, Sem.run_bind]
  rw [hy]
  rfl
theorem op_append {i_ : Nat} {o : Oper} {K : Act → World → Prop} {a : Act} {w : World} (hi0 : ops[i_]? = some o) (hgd : Region.wanted o (yielded ops a.tmps) = true) (s x : Operand) (t : TypeId)
    (ho : o.op = .call { callee := .builtin .append, args := #[s, x], argTypes := #[t, t] })
    (base : Nat) (e : TypeId) (i : TypeInfo) (z : Value) (size bytes : Nat) (ht : P.underlying t = some (.slice e)) (hi : P.info? e = some i) (hz : i.zero = some z)
    (hsize : i.size = size) (hby : i.bytes = bytes) (hzs : z.cells.size = size) (hsz : 0 < size)
    (v : Value) (n : Nat) (xs : List Value) (hs : a.eval s = v) (hown : w.ownsRow base e size v n xs)
    (B : Nat) (A : Option Addr) (m c : Nat) (news : List Value) (hx : a.eval x = .slice A m c) (hr : Reads w B size A m news) (h1 : ∀ u ∈ news, u.oneCell' = true)
    (h63 : n + m ≤ maxLen) (hbytes : (n + m) * bytes ≤ 140737488355328) (hbase : base ≤ w.heap.size)
    (h : ∀ v' w', w'.ownsRow base e size v' (n + m) (xs ++ news) → w.grownBy w' v.ownBlock → (v'.ownBlock = v.ownBlock ∨ v'.ownBlock = some w.heap.size) → K (a.put o.dst v') w') : wpOp P ops Q i_ K a w := by
  refine wpOp_step hi0 fun K' hK => ?_
  rw [if_pos hgd]
  exact wp_append_any w s x t ho base e i z size bytes ht hi hz hsize hby hzs hsz v n xs hs hown B A m c news hx hr h1 h63 hbytes hbase fun v' w' h2 h3 h4 => hK _ _ (h v' w' h2 h3 h4)
end
end
section
open Go.RowKit
theorem copied_any (L : List UInt8) (n : Nat) (A : Option Addr) (c : Nat) (w : World) (hn : n = L.length) (hr : RB w w.heap.size A L) (hl : L.length ≤ 1048576) :
    Calls Tryz.prog 107 #[.slice A n c] w (GivesOne L w) := by
  subst hn
  obtain ⟨i0, hi0, hz0, hz1, hz2⟩ := info_parts Tryz.info5
  have hby : i0.bytes = 1 := hz2
  go_enter Tryz.func107, Tryz.ntmps107
  go_wp2_with (first
    | (at_make; refine wpList_make_full _ rfl _ _ 39 rfl w.heap.size 5 i0 _ 1 Tryz.underlying39 hi0 hz0 hz1 .i64 .i64 _ _ L.length rfl rfl rfl rfl (by rw [hby]; omega) (by unfold maxLen; omega) (Nat.le_refl _) ?_; intro w1 hown hgrow; have hg1 := made_block hown; have hb1 : Below w.heap.size w w1 := (Below.refl _ _).grown hgrow (Nat.le_refl _) (by simp); have hr1 := hr.below hb1; clear hown hgrow)
    | (with_reducible show wpList _ _ _ (⟨some 9, _, _, _, _, _⟩ :: _) _ _; refine wpList_copy_splice rfl (.tmp 7) (.tmp 8) 39 39 rfl 5 Tryz.underlying39 Tryz.size5 (some ⟨w.heap.size, 0, none⟩) A L.length L.length L.length c rfl rfl w.heap.size 0 (List.replicate L.length (.int .u8 0)) 5 hg1 (cells L) (by rw [cells_length]; simp) (rb_src hr1 _) (by simp [cells_length]) (cells_one _) w.heap.size w hb1 (Nat.le_refl _) ?_; intro w2 hg2 hb2))
  go_ret
  refine ⟨some ⟨w.heap.size, 0, none⟩, L.length, rfl, ?_, hb2⟩
  have h2 := hg2.out
  rw [splice_all _ _ (by simp [cells_length])] at h2
  exact block_own h2 (Nat.le_refl _) hl
def Cur (w : World) (g : Nat) : Option (List UInt8) → Prop
  | none => w.heap[g]? = some (.cells #[.slice none 0 0, .bool true] 143 (0, 0))
  | some L => ∃ A c, w.heap[g]? = some (.cells #[.slice A L.length c, .bool false] 143 (0, 0)) ∧ RB w w.heap.size A L ∧ L.length ≤ c ∧ L.length ≤ 1048576
theorem from_any (L : List UInt8) (A : Option Addr) (c : Nat) (w : World) (hr : RB w w.heap.size A L) (hl : L.length ≤ 1048576) :
    Calls Tryz.prog 86 #[.slice A L.length c] w fun e w' => ∃ g, e = .returned (.pointer (some ⟨g, 0, none⟩)) ∧ w.heap.size ≤ g ∧ Cur w' g (some L) ∧ Below w.heap.size w w' := by
  go_enter Tryz.func86, Tryz.ntmps86
  go_wp2_with (go_at_call 107; refine (copied_any L _ _ _ _ rfl hr hl).mono ?_; rintro e w1 ⟨A1, c1, rfl, hown1, hb1⟩)
  go_ret
  have hz := hb1.size
  exact ⟨w1.heap.size, rfl, hz, ⟨A1, c1, heap_alloc_new _ _, ((own_rb hown1).alloc (Nat.le_refl _) _).more (by simp), own_le hown1, hl⟩, hb1.alloc hz _⟩
theorem bad_any (g : Nat) (st : Option (List UInt8)) (w : World) (h : Cur w g st) : Calls Tryz.prog 106 #[.pointer (some ⟨g, 0, none⟩)] w fun e w' => e = .returned (.bool st.isNone) ∧ w = w' := by
  rcases st with _ | L
  · have hc : w.cell? ⟨g, 1, none⟩ = some (.bool true) := (blk_cell h 1).1
    clear h
    go_enter Tryz.func106, Tryz.ntmps106
    go_wp2
    go_ret
    exact ⟨rfl, rfl⟩
  · obtain ⟨A, c, h, _, _⟩ := h
    have hc : w.cell? ⟨g, 1, none⟩ = some (.bool false) := (blk_cell h 1).1
    clear h
    go_enter Tryz.func106, Tryz.ntmps106
    go_wp2
    go_ret
    exact ⟨rfl, rfl⟩
def leftN : Option (List UInt8) → Nat
  | none => 0
  | some L => L.length
theorem left_any (g : Nat) (st : Option (List UInt8)) (w : World) (h : Cur w g st) : Calls Tryz.prog 89 #[.pointer (some ⟨g, 0, none⟩)] w fun e w' => e = .returned (.int .i64 (leftN st : Int)) ∧ w = w' := by
  have hb := bad_any g st w h
  rcases st with _ | L
  · clear h
    go_enter Tryz.func89, Tryz.ntmps89
    go_wp2_with (go_at_call 106; refine hb.mono ?_; rintro e w' ⟨rfl, rfl⟩)
    go_ret
    exact ⟨rfl, rfl⟩
  · obtain ⟨A, c, h, _, _⟩ := h
    have hc : w.cell? ⟨g, 0, none⟩ = some (.slice A L.length c) := (blk_cell h 0).1
    clear h
    go_enter Tryz.func89, Tryz.ntmps89
    go_wp2_with (go_at_call 106; refine hb.mono ?_; rintro e w' ⟨rfl, rfl⟩)
    go_ret
    exact ⟨rfl, rfl⟩
theorem rb_far {w : World} {B g i : Nat} {A : Option Addr} {L : List UInt8} {cs : Array Value} {t : TypeId} (h : RB w B A L) (hg : w.heap[g]? = some (.cells cs t (0, 0))) (hcs : ∀ (j : Nat) (k : IntKind) (z : Int), cs[j]? ≠ some (.int k z)) (u : Value) : RB (w.setCell ⟨g, i, none⟩ u) B A L := by
  refine ⟨h.1, fun hn => ?_⟩
  obtain ⟨b, off, rfl, hb, hc⟩ := RB.at_ h hn
  have hne : b ≠ g := by
    rintro rfl
    have h0 := hc 0 hn
    rw [Nat.add_zero, (blk_cell hg off).1] at h0
    exact hcs _ _ _ h0
  obtain ⟨ad, e, hb', hc'⟩ := h.2 hn
  injection e with e
  subst e
  refine ⟨_, rfl, hb', fun j v hv => ?_⟩
  rw [World.cell?_setCell_other _ _ _ _ (by intro hx; apply hne; have h9 := congrArg Addr.block hx; rw [block_of_add] at h9; exact h9.symm)]
  exact hc' j v hv
theorem cur_cells (A : Option Addr) (n c : Nat) (b : Bool) : ∀ (j : Nat) (k : IntKind) (z : Int), (#[Value.slice A n c, Value.bool b])[j]? ≠ some (.int k z) := by
  intro j k z
  match j with
  | 0 => simp
  | 1 => simp
  | j + 2 => simp
theorem fail_any (g : Nat) (st : Option (List UInt8)) (w : World) (h : Cur w g st) : Calls Tryz.prog 108 #[.pointer (some ⟨g, 0, none⟩)] w fun e w' => e = .returned (.tuple #[]) ∧ Cur w' g none ∧ Only w w' g ∧ w'.heap.size = w.heap.size := by
  have hx : ∃ A n c b, w.heap[g]? = some (.cells #[.slice A n c, .bool b] 143 (0, 0)) := by
    rcases st with _ | L
    · exact ⟨_, _, _, _, h⟩
    · obtain ⟨A, c, h, _⟩ := h
      exact ⟨_, _, _, _, h⟩
  obtain ⟨A, n, c, b, hg⟩ := hx
  have hc0 : w.cell? ⟨g, 0, none⟩ = some (.slice A n c) := (blk_cell hg 0).1
  have hc1 : w.cell? ⟨g, 1, none⟩ = some (.bool b) := (blk_cell hg 1).1
  have hf0 : w.frozen? ⟨g, 0, none⟩ = false := (blk_cell hg 0).2
  have hf1 : w.frozen? ⟨g, 1, none⟩ = false := (blk_cell hg 1).2
  have HG := Lib.hid hg
  clear h hg
  go_enter Tryz.func108, Tryz.ntmps108
  go_wp2
  go_end0
  have h1 := Blk.set_ (Blk.set_ HG.out 1 (.bool true)) 0 (.slice none 0 0)
  exact ⟨rfl, h1, only_trans (only_set _ _ _ _) (only_set _ _ _ _), by simp [World.setCell]⟩
end
section
open Go.RowKit
def unfixR (L : List UInt8) : Nat × Nat :=
  if L.length < 1 ∨ 4 < L.length then (0, 1) else if 2147483647 < unfixL L then (0, 5) else (unfixL L, 0)
theorem unfix_ok {n : Nat} {L : List UInt8} (hl : L.length = n) (h1 : 1 ≤ n) (h4 : n ≤ 4) (h : unfixL L ≤ 2147483647) : unfixR L = (unfixL L, 0) := by unfold unfixR; rw [if_neg (by omega), if_neg (by omega)]
theorem unfix_bad {n : Nat} {L : List UInt8} (hl : L.length = n) (h1 : 1 ≤ n) (h4 : n ≤ 4) (h : ¬ unfixL L ≤ 2147483647) : unfixR L = (0, 5) := by unfold unfixR; rw [if_neg (by omega), if_pos (by omega)]
def UnfixPost (r : Nat × Nat) (e : Ending) : Prop := e = .returned (.tuple #[.int .i64 (r.1 : Int), .int .i64 (r.2 : Int)])
theorem unfix_take (L : List UInt8) (k : Nat) (h : k < L.length) : unfixL (L.take (k + 1)) = unfixL (L.take k) + L[k].toNat * 256 ^ k := by
  rw [List.take_succ_eq_append_getElem h, unfixL_append]
  simp [unfixL, Nat.min_eq_left (Nat.le_of_lt h), Nat.mul_comm]
theorem unfix_or (acc x k : Nat) (hk : k < 4) (ha : acc < 256 ^ k) (hx : x < 256) :
    bits .or .u64 (acc : Int) (IntKind.u64.wrap ((x : Int) * 2 ^ (8 * k))) = ((acc + x * 256 ^ k : Nat) : Int) ∧ acc + x * 256 ^ k < 256 ^ (k + 1) := by
  have e : (256 : Nat) ^ k = 2 ^ (8 * k) := by rw [Nat.pow_mul]
  have hle : (256 : Nat) ^ k ≤ 256 ^ 3 := Nat.pow_le_pow_right (by omega) (by omega)
  have hm : x * 256 ^ k ≤ 255 * 256 ^ k := Nat.mul_le_mul_right _ (by omega)
  refine ⟨?_, by rw [Nat.pow_succ]; omega⟩
  rw [e] at ha hm hle ⊢
  exact or_shl acc x (8 * k) ha (by omega)
theorem unfix_any (L : List UInt8) (A : Option Addr) (c B : Nat) (w : World) (hr : RB w B A L) (hl : L.length ≤ 1048576) :
    Calls Tryz.prog 115 #[.slice A L.length c] w fun e w' => UnfixPost (unfixR L) e ∧ w = w' := by
  by_cases h1 : L.length < 1
  · have HR : Hid (unfixR L = (0, 1)) := by show _ = _; unfold unfixR; rw [if_pos (.inl h1)]
    go_enter Tryz.func115, Tryz.ntmps115
    go_wp2
    go_ret2
    exact ⟨by rw [HR.out]; exact rfl, rfl⟩
  by_cases h4 : 4 < L.length
  · have HR : Hid (unfixR L = (0, 1)) := by show _ = _; unfold unfixR; rw [if_pos (.inr h4)]
    go_enter Tryz.func115, Tryz.ntmps115
    go_wp2
    go_ret2
    exact ⟨by rw [HR.out]; exact rfl, rfl⟩
  obtain ⟨b, off, rfl, hb, hcell⟩ := hr.at_ (by omega)
  have HC : Hid (∀ (k : Nat) (hk : k < L.length), w.cell? ⟨b, off + k, none⟩ = some (Value.int .u8 (L[k].toNat : Int))) := hcell
  have HR : Hid (unfixR L = if 2147483647 < unfixL L then (0, 5) else (unfixL L, 0)) := by show _ = _; unfold unfixR; rw [if_neg (by omega)]
  clear hcell hr
  go_enter Tryz.func115, Tryz.ntmps115
  go_wp2
  go_loop [4, 17] (fun n i => ∃ k acc : Nat, k ≤ L.length ∧ i = .int .i64 (k : Int) ∧ n = .int .u64 (acc : Int) ∧ acc = unfixL (L.take k)) (fun _ i => 5 - (intOf i).toNat)
  case atStart => exact ⟨0, 0, by omega, rfl, rfl, rfl⟩
  case round =>
    obtain ⟨k, acc, hkl, rfl, rfl, hacc⟩ := hrel
    have hlt2 : acc < 256 ^ k := by have := unfixL_lt (L.take k); rw [hacc]; rwa [List.length_take, Nat.min_eq_left hkl] at this
    by_cases hlt : k < L.length
    · obtain ⟨x, hx⟩ : ∃ x : Nat, x = L[k].toNat := ⟨_, rfl⟩
      have hck := HC.out k hlt
      rw [← hx] at hck
      have hx256 : x < 256 := by rw [hx]; exact byte_lt _
      obtain ⟨acc', ha'⟩ : ∃ acc' : Nat, acc' = acc + x * 256 ^ k := ⟨_, rfl⟩
      obtain ⟨he, _⟩ := unfix_or acc x k (by omega) hlt2 hx256
      rw [← ha'] at he
      have HA : Hid (acc' = unfixL (L.take (k + 1))) := by show _ = _; rw [unfix_take L k hlt, ← hacc, ← hx, ha']
      clear hx ha' hacc hlt2
      go_wp2
      go_round
      case rel => exact ⟨k + 1, acc', by omega, by go_num, rfl, HA.out⟩
      case measure => simp [intOf]; omega
    · have hk : k = L.length := by omega
      have HA : Hid (acc = unfixL L) := by show _ = _; rw [hacc, List.take_of_length_le (by omega)]
      have hlt3 : acc < 4294967296 := Nat.lt_of_lt_of_le hlt2 (Nat.le_trans (Nat.pow_le_pow_right (by omega) (show k ≤ 4 by omega)) (by decide))
      clear hacc hlt2 hk
      by_cases hm : 2147483647 < acc
      · go_wp2
        go_ret2
        exact ⟨by rw [HR.out, ← HA.out, if_pos hm]; exact rfl, rfl⟩
      · go_wp2
        go_ret2
        exact ⟨by rw [HR.out, ← HA.out, if_neg hm]; exact rfl, rfl⟩
end
section
open Go.RowKit
theorem equal_any (L M : List UInt8) (A C : Option Addr) (c d B E : Nat) (w : World) (ha : RB w B A L) (hb : RB w E C M) :
    Calls Tryz.prog 101 #[.slice A L.length c, .slice C M.length d] w fun e w' => e = .returned (.bool (decide (L = M))) ∧ w = w' := by
  have e1 := run_str (P := Tryz.prog) 39 5 9 Tryz.underlying39 Tryz.underlying5 Tryz.underlying9 ha L.length c rfl
  have e2 := run_str (P := Tryz.prog) 39 5 9 Tryz.underlying39 Tryz.underlying5 Tryz.underlying9 hb M.length d rfl
  go_enter Tryz.func101, Tryz.ntmps101
  go_wp2
  go_ret
  exact ⟨congrArg (fun b => Ending.returned (Value.bool b)) (text_eq L M), rfl⟩
theorem clone_some (L : List UInt8) (ad : Addr) (c B : Nat) (w : World) (hr : RB w B (some ad) L) (hl : L.length ≤ 140737488351232) :
    Calls Tryz.prog 104 #[.slice (some ad) L.length c] w (GivesOne L w) := by
  obtain ⟨i0, hi0, hz0, hz1, hz2⟩ := info_parts Tryz.info5
  have hr := rb_lt hr
  have hn : (binOp .eql 39 (.slice (some ad) L.length c) (.slice none 0 0)).run Tryz.prog w = .ok (.bool false) w := Lib.run_eql_slice_nil w 39 5 (some ad) L.length c 0 0 Tryz.underlying39
  go_enter Tryz.func104, Tryz.ntmps104
  go_wp2_with (at_builtin; refine wpList_append_any _ rfl (.tmp 5) (.tmp 6) _ rfl w.heap.size 5 i0 _ 1 1 Tryz.underlying39 hi0 hz0 hz1 hz2 rfl (by omega) (.slice (some ⟨w.heap.size, 0, none⟩) 0 0) 0 [] rfl (World.ownsRow_made w #[] 0 (Nat.le_refl _) (by decide) rfl) w.heap.size (some ad) L.length c (cells L) rfl (hr.alloc (Nat.le_refl _) _) (cells_one _) (by simp only [maxLen]; omega) (by omega) (by simp) ?_; intro v5 w5 ho5 hg5 hat5; simp only [Nat.zero_add, List.nil_append] at ho5; have hb5 : Below w.heap.size w w5 := ((Below.refl _ _).alloc (Nat.le_refl _) _).grown hg5 (by simp) (by simp [Value.ownBlock]))
  obtain ⟨A3, c3, hv⟩ := own_form ho5
  go_ret
  exact ⟨A3, c3, by rw [hv]; rfl, by rw [hv] at ho5; exact ho5, hb5⟩
theorem clone_none (n c : Nat) (w : World) : Calls Tryz.prog 104 #[.slice none n c] w fun e w' => e = .returned (.slice none 0 0) ∧ w = w' := by
  have hn : (binOp .eql 39 (.slice none n c) (.slice none 0 0)).run Tryz.prog w = .ok (.bool true) w := Lib.run_eql_slice_nil w 39 5 none n c 0 0 Tryz.underlying39
  go_enter Tryz.func104, Tryz.ntmps104
  go_wp2
  go_ret
  exact ⟨rfl, rfl⟩
theorem clone_any (L : List UInt8) (A : Option Addr) (c B : Nat) (w : World) (hr : RB w B A L) (hl : L.length ≤ 140737488351232) :
    Calls Tryz.prog 104 #[.slice A L.length c] w (GivesOne L w) := by
  rcases A with _ | ad
  · have hL : L = [] := by
      rcases L with _ | ⟨x, L⟩
      · rfl
      · obtain ⟨ad, h, _⟩ := hr.2 (by simp)
        cases h
    subst hL
    refine (clone_none _ c w).mono fun e w' h => ?_
    obtain ⟨he, rfl⟩ := h
    exact ⟨none, 0, he, World.ownsRow_nil _ _ _ _, Below.refl _ _⟩
  · exact clone_some L ad c B w hr hl
end
end Go.Proofs.YtghenhacndaelaaGreat
