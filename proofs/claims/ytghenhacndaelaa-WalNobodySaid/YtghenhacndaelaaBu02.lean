/- Lemmas under the proofs of this place: DiskPlain, Letters, Guard. No statement is proved here. -/
import Derived.Test.YtghenhacndaelaaBu00
import Derived.Deep.WholeRow
import Derived.Deep.MidRow
import Derived.Great.Walk
import Derived.Great.Ranges
import Derived.Great.BuildSlice
import Derived.Lib.Hide
import Derived.BigQuiet
import Derived.StillTail
set_option linter.unusedVariables false
namespace Go.Proofs.Ytghenhacndaelaa
section
structure Dk where
  safe : List (List UInt8)
  waits : List (Nat × List UInt8)
  left : Int
  off : Bool
  reads : Nat
  writes : Nat
  flushes : Nat
deriving DecidableEq
namespace Dk
def lastOf (n : Nat) : List (Nat × List UInt8) → Option (List UInt8)
  | [] => none
  | x :: l => match lastOf n l with
    | some b => some b
    | none => if x.1 = n then some x.2 else none
def now (d : Dk) (n : Nat) : List UInt8 := (lastOf n d.waits).getD (d.safe.getD n [])
def there (d : Dk) (i : Int) : Bool := decide (0 ≤ i ∧ i < d.safe.length)
def blank (n : Nat) : Dk := ⟨List.replicate n (List.replicate 256 0), [], -1, false, 0, 0, 0⟩
def read (d : Dk) (i : Int) : Dk × List UInt8 × Int :=
  if d.off then (d, [], 9) else if !d.there i then (d, [], 10) else ({ d with reads := d.reads + 1 }, d.now i.toNat, 0)
def deed (d : Dk) : Dk × Bool :=
  if d.left = 0 then ({ d with off := true }, false) else if 0 < d.left then ({ d with left := d.left - 1 }, true) else (d, true)
def write (d : Dk) (i : Int) (b : List UInt8) : Dk × Int :=
  if d.off then (d, 9) else if !d.there i then (d, 10) else if b.length ≠ 256 then (d, 11)
  else match deed { d with waits := d.waits ++ [(i.toNat, b)] } with
    | (e, false) => (e, 9)
    | (e, true) => ({ e with writes := e.writes + 1 }, 0)
def laid (safe : List (List UInt8)) : List (Nat × List UInt8) → List (List UInt8)
  | [] => safe
  | x :: l => laid (safe.set x.1 x.2) l
def flush (d : Dk) : Dk × Int :=
  if d.off then (d, 9) else match deed d with
    | (e, false) => (e, 9)
    | (e, true) => ({ e with safe := laid e.safe e.waits, waits := [], flushes := e.flushes + 1 }, 0)
def stop (d : Dk) (i : Int) : Dk × Int := if i < 0 then (d, 1) else ({ d with left := i }, 0)
def bitOf (m : Int) (k : Nat) : Bool := decide (m / 2 ^ k % 2 = 1)
def sector (b : List UInt8) (k : Nat) : List UInt8 := (b.drop (64 * k)).take 64
def torn (was b : List UInt8) (m : Int) : List UInt8 := (List.range 4).flatMap fun k => sector (if bitOf m k then b else was) k
def crashed (masks : List Int) (safe : List (List UInt8)) : List (Nat × List UInt8) → Nat → List (List UInt8)
  | [], _ => safe
  | x :: l, i => if i < masks.length then crashed masks (safe.set x.1 (torn (safe.getD x.1 []) x.2 (masks.getD i 0))) l (i + 1) else crashed masks safe l (i + 1)
def crash (d : Dk) (masks : List Int) : Dk := { d with safe := crashed masks d.safe d.waits 0, waits := [], off := false, left := -1 }
def image (d : Dk) : List UInt8 := (List.range d.safe.length).flatMap d.now
def fit (d : Dk) : Prop := (∀ b ∈ d.safe, b.length = 256) ∧ ∀ x ∈ d.waits, x.1 < d.safe.length ∧ x.2.length = 256
theorem lastOf_append (n : Nat) (l : List (Nat × List UInt8)) (x : Nat × List UInt8) : lastOf n (l ++ [x]) = if x.1 = n then some x.2 else lastOf n l := by
  induction l with
  | nil => simp [lastOf]
  | cons y l ih =>
    rw [List.cons_append, lastOf, ih, lastOf]
    by_cases h : x.1 = n
    · simp [h]
    · simp [h]
theorem laid_length (l : List (Nat × List UInt8)) : ∀ safe : List (List UInt8), (laid safe l).length = safe.length := by
  induction l with
  | nil => intro safe; rfl
  | cons x l ih => intro safe; rw [laid, ih]; simp
theorem crashed_length (masks : List Int) (l : List (Nat × List UInt8)) : ∀ (safe : List (List UInt8)) (i : Nat), (crashed masks safe l i).length = safe.length := by
  induction l with
  | nil => intro safe i; rfl
  | cons x l ih =>
    intro safe i
    rw [crashed]
    split
    · rw [ih]; simp
    · rw [ih]
theorem laid_get (n : Nat) (l : List (Nat × List UInt8)) : ∀ safe : List (List UInt8), n < safe.length → (laid safe l).getD n [] = (lastOf n l).getD (safe.getD n []) := by
  induction l with
  | nil => intro safe _; rfl
  | cons x l ih =>
    intro safe hn
    rw [laid, ih _ (by simpa using hn), lastOf]
    cases lastOf n l with
    | some b => rfl
    | none =>
      by_cases h : x.1 = n
      · rw [if_pos h, h]; simp [List.getD, List.getElem?_set_self hn]
      · rw [if_neg h]; simp [List.getD, List.getElem?_set_ne h]
theorem torn_length (was b : List UInt8) (m : Int) (h1 : was.length = 256) (h2 : b.length = 256) : (torn was b m).length = 256 := by
  unfold torn
  have e : ∀ k, k < 4 → (sector (if bitOf m k then b else was) k).length = 64 := fun k hk => by
    unfold sector
    split <;> simp <;> omega
  simp only [List.range, List.range.loop, List.flatMap_cons, List.flatMap_nil, List.length_append, List.length_nil]
  rw [e 0 (by omega), e 1 (by omega), e 2 (by omega), e 3 (by omega)]
theorem torn_sector (was b : List UInt8) (m : Int) (k : Nat) (hk : k < 4) (h1 : was.length = 256) (h2 : b.length = 256) : sector (torn was b m) k = sector (if bitOf m k then b else was) k := by
  have e : ∀ j, j < 4 → (sector (if bitOf m j then b else was) j).length = 64 := fun j hj => by
    unfold sector
    split <;> simp <;> omega
  have dr : ∀ (a r : List UInt8) (j : Nat), a.length = 64 → (a ++ r).drop (64 + j) = r.drop j := fun a r j h => by
    rw [List.drop_append, List.drop_eq_nil_of_le (by omega), List.nil_append]
    congr 1; omega
  have ht : torn was b m = sector (if bitOf m 0 then b else was) 0 ++ (sector (if bitOf m 1 then b else was) 1 ++ (sector (if bitOf m 2 then b else was) 2 ++ (sector (if bitOf m 3 then b else was) 3 ++ []))) := by
    unfold torn; simp [List.range, List.range.loop]
  have e0 := e 0 (by omega); have e1 := e 1 (by omega); have e2 := e 2 (by omega); have e3 := e 3 (by omega)
  rw [ht]
  have go : ∀ (t : List UInt8) (j : Nat), sector t j = (t.drop (64 * j)).take 64 := fun _ _ => rfl
  match k, hk with
  | 0, _ => rw [go _ 0]; exact List.take_left' e0
  | 1, _ => rw [go _ 1, show 64 * 1 = 64 + 0 from rfl, dr _ _ _ e0]; exact List.take_left' e1
  | 2, _ => rw [go _ 2, show 64 * 2 = 64 + (64 + 0) from rfl, dr _ _ _ e0, dr _ _ _ e1]; exact List.take_left' e2
  | 3, _ => rw [go _ 3, show 64 * 3 = 64 + (64 + (64 + 0)) from rfl, dr _ _ _ e0, dr _ _ _ e1, dr _ _ _ e2]; exact List.take_left' e3
def step (d : Dk) (kind i : Int) (b : List UInt8) (masks : List Int) : Dk :=
  if kind = 1 then (d.read i).1 else if kind = 2 then (d.write i b).1 else if kind = 3 then d.flush.1 else if kind = 4 then (d.stop i).1 else if kind = 5 then d.crash masks else d
theorem deed_same (d : Dk) : (deed d).1.safe = d.safe ∧ (deed d).1.waits = d.waits := by
  unfold deed
  split
  · exact ⟨rfl, rfl⟩
  · split <;> exact ⟨rfl, rfl⟩
theorem lastOf_mem (n : Nat) : ∀ (l : List (Nat × List UInt8)) (b : List UInt8), lastOf n l = some b → (n, b) ∈ l
  | [], b, h => by cases h
  | x :: l, b, h => by
    rw [lastOf] at h
    cases hl : lastOf n l with
    | some c =>
      rw [hl] at h
      simp only [Option.some.injEq] at h
      subst h
      exact List.mem_cons_of_mem _ (lastOf_mem n l c hl)
    | none =>
      rw [hl] at h
      simp only at h
      split at h
      · rename_i hx
        simp only [Option.some.injEq] at h
        subst h hx
        exact List.mem_cons_self ..
      · cases h
theorem fit_now {d : Dk} (h : fit d) {n : Nat} (hn : n < d.safe.length) : (d.now n).length = 256 := by
  unfold now
  cases hl : lastOf n d.waits with
  | some b => exact (h.2 _ (lastOf_mem n _ b hl)).2
  | none =>
    simp only [Option.getD_none, List.getD, List.getElem?_eq_getElem hn, Option.getD_some]
    exact h.1 _ (List.getElem_mem hn)
theorem laid_fit (l : List (Nat × List UInt8)) : ∀ safe : List (List UInt8), (∀ b ∈ safe, b.length = 256) → (∀ x ∈ l, x.2.length = 256) → ∀ b ∈ laid safe l, b.length = 256 := by
  induction l with
  | nil => intro safe h _; exact h
  | cons x l ih =>
    intro safe h hx
    rw [laid]
    refine ih _ (fun b hb => ?_) (fun y hy => hx y (List.mem_cons_of_mem _ hy))
    rcases List.mem_or_eq_of_mem_set hb with h1 | h1
    · exact h b h1
    · rw [h1]; exact hx x (List.mem_cons_self ..)
theorem crashed_fit (masks : List Int) (l : List (Nat × List UInt8)) : ∀ (safe : List (List UInt8)) (i : Nat), (∀ b ∈ safe, b.length = 256) → (∀ x ∈ l, x.1 < safe.length ∧ x.2.length = 256) → ∀ b ∈ crashed masks safe l i, b.length = 256 := by
  induction l with
  | nil => intro safe i h _; exact h
  | cons x l ih =>
    intro safe i h hx
    rw [crashed]
    split
    · refine ih _ _ (fun b hb => ?_) (fun y hy => by rw [List.length_set]; exact hx y (List.mem_cons_of_mem _ hy))
      rcases List.mem_or_eq_of_mem_set hb with h1 | h1
      · exact h b h1
      · have h0 := hx x (List.mem_cons_self ..)
        rw [h1]
        refine torn_length _ _ _ ?_ h0.2
        rw [List.getD, List.getElem?_eq_getElem h0.1]
        exact h _ (List.getElem_mem h0.1)
    · exact ih _ _ h (fun y hy => hx y (List.mem_cons_of_mem _ hy))
theorem fit_step {d : Dk} (h : fit d) (kind i : Int) (c : List UInt8) (masks : List Int) : fit (step d kind i c masks) ∧ (step d kind i c masks).safe.length = d.safe.length := by
  unfold step
  split
  · unfold read; split
    · exact ⟨h, rfl⟩
    · split <;> exact ⟨h, rfl⟩
  · split
    · unfold write
      split
      · exact ⟨h, rfl⟩
      · split
        · exact ⟨h, rfl⟩
        · rename_i ht
          split
          · exact ⟨h, rfl⟩
          · rename_i hc
            have hi : i.toNat < d.safe.length := by
              have : d.there i = true := by simpa using ht
              unfold there at this
              rw [decide_eq_true_eq] at this
              omega
            have hd := deed_same { d with waits := d.waits ++ [(i.toNat, c)] }
            cases hq : deed { d with waits := d.waits ++ [(i.toNat, c)] } with
            | mk e q =>
              rw [hq] at hd
              have hE : fit e ∧ e.safe.length = d.safe.length := by
                refine ⟨⟨by rw [hd.1]; exact h.1, fun x hx => ?_⟩, by rw [hd.1]⟩
                rw [hd.2] at hx
                rw [hd.1]
                rcases List.mem_append.1 hx with h3 | h3
                · exact h.2 x h3
                · rw [List.mem_singleton] at h3; subst h3; exact ⟨hi, Classical.byContradiction hc⟩
              cases q <;> exact hE
    · split
      · unfold flush
        split
        · exact ⟨h, rfl⟩
        · have hd := deed_same d
          cases hq : deed d with
          | mk e q =>
            rw [hq] at hd
            cases q with
            | false => exact ⟨⟨by rw [hd.1]; exact h.1, by rw [hd.1, hd.2]; exact h.2⟩, by rw [hd.1]⟩
            | true =>
              have hs : e.safe = d.safe := hd.1
              have hw : e.waits = d.waits := hd.2
              refine ⟨⟨?_, fun x hx => by cases hx⟩, by simp only [laid_length, hs]⟩
              exact laid_fit _ _ (by rw [hs]; exact h.1) fun x hx => (h.2 x (by rw [← hw]; exact hx)).2
      · split
        · unfold stop
          split <;> exact ⟨h, rfl⟩
        · split
          · refine ⟨⟨?_, by simp [crash]⟩, by simp only [crash, crashed_length]⟩
            simp only [crash]
            exact crashed_fit masks _ _ _ h.1 h.2
          · exact ⟨h, rfl⟩
theorem fit_blank (n : Nat) : fit (blank n) := ⟨fun b hb => by rw [List.eq_of_mem_replicate hb]; exact List.length_replicate .., fun x hx => by cases hx⟩
end Dk
end
section
open Go.RowKit
theorem wpList_box_letter {P : Program} {ops : Array Oper} {rest : List Oper} {o : Oper} {a : Act} {w : World} {Q : Exit → Act → World → Prop} (hg : o.guard = none) (t : TypeId) (x : Operand) (ho : o.op = .box t x)
    (dst : Option Tmp) (hdst : o.dst = dst) (cs : Array Value) (hx : a.eval x = .agg cs)
    (h : ∀ g W, Hid (W = w.alloc (.cells cs t)) → Hid (g = w.heap.size) → wpList P ops Q rest (a.put dst (.pointer (some ⟨g, 0, none⟩))) W) : wpList P ops Q (o :: rest) a w :=
  Great.wpList_boxTo hg t x ho dst hdst w.heap.size rfl cs (by rw [hx]; rfl) (h _ _ (Lib.hid rfl) (Lib.hid rfl))
theorem wpList_alloc_letter {P : Program} {ops : Array Oper} {rest : List Oper} {o : Oper} {a : Act} {w : World} {Q : Exit → Act → World → Prop} (hg : o.guard = none) (t : TypeId) (ho : o.op = .alloc t)
    (dst : Option Tmp) (hdst : o.dst = dst) (cs : Array Value) (hz : (P.info? t).map (fun i => (i.zero, i.size)) = some (some (.agg cs), cs.size))
    (h : ∀ g W, Hid (W = w.alloc (.cells cs t)) → Hid (g = w.heap.size) → wpList P ops Q rest (a.put dst (.pointer (some ⟨g, 0, none⟩))) W) : wpList P ops Q (o :: rest) a w := by
  have hz1 := (zero_of_info hz).1
  refine wpList_plain hg fun K hK => ?_
  unfold Oper.wp execOp
  subst hdst
  simp only [ho, Sem.run_bind, Instr.alloc, newVar, newRow, hz1, run_newObj_alloc, Sem.run_pure, Result.andThen_ok, Value.cells]
  exact hK _ _ (h _ _ (Lib.hid rfl) (Lib.hid rfl))
theorem letter_blk {w W : World} {g : Nat} {t : TypeId} {cs : Array Value} (hW : Hid (W = w.alloc (.cells cs t))) (hg : Hid (g = w.heap.size)) : Blk W g t cs := by
  rw [hW.out, hg.out]; exact Blk.new w t cs
theorem letter_below {B : Nat} {w0 w W : World} {o : Obj} (hW : Hid (W = w.alloc o)) (hb : Below B w0 w) (hB : B ≤ w.heap.size) : Below B w0 W := by
  rw [hW.out]; exact hb.alloc hB o
theorem letter_size {w W : World} {o : Obj} (hW : Hid (W = w.alloc o)) : W.heap.size = w.heap.size + 1 := by
  rw [hW.out]; simp
theorem quiet_same {P : Program} {f : FuncId} {args : Array Value} {w : World} {n : Nat} {v : Value} (h : Hid (∀ V, Calls P f args V fun e w' => e = .returned v ∧ V = w')) :
    Calls P f args (w.drewN n) fun e w'' => e = .returned v ∧ ∃ m, w'' = w.drewN m :=
  Calls.quiet_of_same ((h.out _).mono fun _ _ h => ⟨h.1, h.2.symm⟩)
end
section
open Go.RowKit
section
variable {P : Program} {Q : Exit → Act → World → Prop} {a : Act}
theorem wpList_wanted {ops : Array Oper} {o : Oper} {rest : List Oper} {w : World} (hw : Region.wanted o (yielded ops a.tmps) = true)
    (h : ∀ K : Act → World → Prop, (∀ a w, wpList P ops Q rest a w → K a w) → o.wp P a w K Q) : wpList P ops Q (o :: rest) a w :=
  wpList_step fun K hK => by rw [if_pos hw]; exact h K hK
theorem wpAny_tail {md : Region.Mode} {l : List Oper} {fuel : Nat} {listed : Array Bool} {w : World} (n : Nat) (hf : fuel = (l.drop n).length)
    (hB : Region.seqB md l.toArray (l.drop n).length n listed = true) (h : wpList P l.toArray Q (l.drop n) a w) : wpAny P md l.toArray Q fuel listed a w := by
  subst hf
  exact wpAny_of_seq (l.drop n) n listed a w (fun j => by simp [List.getElem?_drop]) hB h
end
end
end Go.Proofs.Ytghenhacndaelaa
