/- Lemmas under the proofs of this place: Letters, DiskPlain, Law. No statement is proved here. -/
import Derived.Test.YtkockhggnbfahaaBu00
import Derived.Test.YtkockhggnbfahaaRows
import Derived.Deep.WholeRow
import Derived.Deep.MidRow
import Derived.Great.Walk
import Derived.Great.Ranges
import Derived.Great.BuildSlice
import Derived.Lib.Hide
import Derived.BigQuiet
import Derived.ProofKit
import Derived.OpenShut
import Derived.Laws.IdiomArrays
section
set_option linter.unusedVariables false
namespace Go.Proofs.Ytkockhggnbfahaa
open Go.RowKit
theorem wpList_box_letter {P : Program} {ops : Array Oper} {rest : List Oper} {o : Oper} {a : Act} {w : World} {Q : Exit → Act → World → Prop} (hg : o.guard = none) (t : TypeId) (x : Operand) (ho : o.op = .box t x)
    (dst : Option Tmp) (hdst : o.dst = dst) (cs : Array Value) (hx : a.eval x = .agg cs)
    (h : ∀ g W, Hid (W = w.alloc (.cells cs t)) → Hid (g = w.heap.size) → wpList P ops Q rest (a.put dst (.pointer (some ⟨g, 0, none⟩))) W) : wpList P ops Q (o :: rest) a w :=
  Great.wpList_boxTo hg t x ho dst hdst w.heap.size rfl cs (by rw [hx]; rfl) (h _ _ (Lib.hid rfl) (Lib.hid rfl))
theorem wpList_alloc_letter {P : Program} {ops : Array Oper} {rest : List Oper} {o : Oper} {a : Act} {w : World} {Q : Exit → Act → World → Prop} (hg : o.guard = none) (t : TypeId) (ho : o.op = .alloc t)
    (dst : Option Tmp) (hdst : o.dst = dst) (cs : Array Value) (hz : (P.info? t).map (fun i => (i.zero, i.size)) = some (some (.agg cs), cs.size))
    (h : ∀ g W, Hid (W = w.alloc (.cells cs t)) → Hid (g = w.heap.size) → wpList P ops Q rest (a.put dst (.pointer (some ⟨g, 0, none⟩))) W) : wpList P ops Q (o :: rest) a w := by
  have hz1 := (zero_of_info hz).1
  refine wpList_plain hg fun K hK => ?_
  unfold Oper.wp execOp
  subst hdst
  simp only [ho, Sem.run_bind, Instr.alloc, newVar, newRow, hz1, run_newObj_alloc, Sem.run_pure, Result.andThen_ok, Value.cells]
  exact hK _ _ (h _ _ (Lib.hid rfl) (Lib.hid rfl))
theorem letter_blk {w W : World} {g : Nat} {t : TypeId} {cs : Array Value} (hW : Hid (W = w.alloc (.cells cs t))) (hg : Hid (g = w.heap.size)) : Blk W g t cs := by
  rw [hW.out, hg.out]; exact Blk.new w t cs
theorem letter_below {B : Nat} {w0 w W : World} {o : Obj} (hW : Hid (W = w.alloc o)) (hb : Below B w0 w) (hB : B ≤ w.heap.size) : Below B w0 W := by
  rw [hW.out]; exact hb.alloc hB o
theorem letter_size {w W : World} {o : Obj} (hW : Hid (W = w.alloc o)) : W.heap.size = w.heap.size + 1 := by
  rw [hW.out]; simp
end Go.Proofs.Ytkockhggnbfahaa
end
section
set_option linter.unusedVariables false
namespace Go.Proofs.Ytkockhggnbfahaa
structure Dk where
  safe : List (List UInt8)
  waits : List (Nat × List UInt8)
  left : Int
  off : Bool
  reads : Nat
  writes : Nat
  flushes : Nat
deriving DecidableEq
namespace Dk
def lastOf (n : Nat) : List (Nat × List UInt8) → Option (List UInt8)
  | [] => none
  | x :: l => match lastOf n l with
    | some b => some b
    | none => if x.1 = n then some x.2 else none
def now (d : Dk) (n : Nat) : List UInt8 := (lastOf n d.waits).getD (d.safe.getD n [])
def there (d : Dk) (i : Int) : Bool := decide (0 ≤ i ∧ i < d.safe.length)
def blank (n : Nat) : Dk := ⟨List.replicate n (List.replicate 256 0), [], -1, false, 0, 0, 0⟩
def read (d : Dk) (i : Int) : Dk × List UInt8 × Int :=
  if d.off then (d, [], 9) else if !d.there i then (d, [], 10) else ({ d with reads := d.reads + 1 }, d.now i.toNat, 0)
def deed (d : Dk) : Dk × Bool :=
  if d.left = 0 then ({ d with off := true }, false) else if 0 < d.left then ({ d with left := d.left - 1 }, true) else (d, true)
def write (d : Dk) (i : Int) (b : List UInt8) : Dk × Int :=
  if d.off then (d, 9) else if !d.there i then (d, 10) else if b.length ≠ 256 then (d, 11)
  else match deed { d with waits := d.waits ++ [(i.toNat, b)] } with
    | (e, false) => (e, 9)
    | (e, true) => ({ e with writes := e.writes + 1 }, 0)
def laid (safe : List (List UInt8)) : List (Nat × List UInt8) → List (List UInt8)
  | [] => safe
  | x :: l => laid (safe.set x.1 x.2) l
def flush (d : Dk) : Dk × Int :=
  if d.off then (d, 9) else match deed d with
    | (e, false) => (e, 9)
    | (e, true) => ({ e with safe := laid e.safe e.waits, waits := [], flushes := e.flushes + 1 }, 0)
def stop (d : Dk) (i : Int) : Dk × Int := if i < 0 then (d, 1) else ({ d with left := i }, 0)
def bitOf (m : Int) (k : Nat) : Bool := decide (m / 2 ^ k % 2 = 1)
def sector (b : List UInt8) (k : Nat) : List UInt8 := (b.drop (64 * k)).take 64
def torn (was b : List UInt8) (m : Int) : List UInt8 := (List.range 4).flatMap fun k => sector (if bitOf m k then b else was) k
def crashed (masks : List Int) (safe : List (List UInt8)) : List (Nat × List UInt8) → Nat → List (List UInt8)
  | [], _ => safe
  | x :: l, i => if i < masks.length then crashed masks (safe.set x.1 (torn (safe.getD x.1 []) x.2 (masks.getD i 0))) l (i + 1) else crashed masks safe l (i + 1)
def crash (d : Dk) (masks : List Int) : Dk := { d with safe := crashed masks d.safe d.waits 0, waits := [], off := false, left := -1 }
def image (d : Dk) : List UInt8 := (List.range d.safe.length).flatMap d.now
def sure (d : Dk) : List UInt8 := d.safe.flatten
def fit (d : Dk) : Prop := (∀ b ∈ d.safe, b.length = 256) ∧ ∀ x ∈ d.waits, x.1 < d.safe.length ∧ x.2.length = 256
theorem lastOf_append (n : Nat) (l : List (Nat × List UInt8)) (x : Nat × List UInt8) : lastOf n (l ++ [x]) = if x.1 = n then some x.2 else lastOf n l := by
  induction l with
  | nil => simp [lastOf]
  | cons y l ih =>
    rw [List.cons_append, lastOf, ih, lastOf]
    by_cases h : x.1 = n
    · simp [h]
    · simp [h]
theorem laid_length (l : List (Nat × List UInt8)) : ∀ safe : List (List UInt8), (laid safe l).length = safe.length := by
  induction l with
  | nil => intro safe; rfl
  | cons x l ih => intro safe; rw [laid, ih]; simp
theorem crashed_length (masks : List Int) (l : List (Nat × List UInt8)) : ∀ (safe : List (List UInt8)) (i : Nat), (crashed masks safe l i).length = safe.length := by
  induction l with
  | nil => intro safe i; rfl
  | cons x l ih =>
    intro safe i
    rw [crashed]
    split
    · rw [ih]; simp
    · rw [ih]
theorem laid_get (n : Nat) (l : List (Nat × List UInt8)) : ∀ safe : List (List UInt8), n < safe.length → (laid safe l).getD n [] = (lastOf n l).getD (safe.getD n []) := by
  induction l with
  | nil => intro safe _; rfl
  | cons x l ih =>
    intro safe hn
    rw [laid, ih _ (by simpa using hn), lastOf]
    cases lastOf n l with
    | some b => rfl
    | none =>
      by_cases h : x.1 = n
      · rw [if_pos h, h]; simp [List.getD, List.getElem?_set_self hn]
      · rw [if_neg h]; simp [List.getD, List.getElem?_set_ne h]
theorem torn_length (was b : List UInt8) (m : Int) (h1 : was.length = 256) (h2 : b.length = 256) : (torn was b m).length = 256 := by
  unfold torn
  have e : ∀ k, k < 4 → (sector (if bitOf m k then b else was) k).length = 64 := fun k hk => by
    unfold sector
    split <;> simp <;> omega
  simp only [List.range, List.range.loop, List.flatMap_cons, List.flatMap_nil, List.length_append, List.length_nil]
  rw [e 0 (by omega), e 1 (by omega), e 2 (by omega), e 3 (by omega)]
theorem torn_sector (was b : List UInt8) (m : Int) (k : Nat) (hk : k < 4) (h1 : was.length = 256) (h2 : b.length = 256) : sector (torn was b m) k = sector (if bitOf m k then b else was) k := by
  have e : ∀ j, j < 4 → (sector (if bitOf m j then b else was) j).length = 64 := fun j hj => by
    unfold sector
    split <;> simp <;> omega
  have dr : ∀ (a r : List UInt8) (j : Nat), a.length = 64 → (a ++ r).drop (64 + j) = r.drop j := fun a r j h => by
    rw [List.drop_append, List.drop_eq_nil_of_le (by omega), List.nil_append]
    congr 1; omega
  have ht : torn was b m = sector (if bitOf m 0 then b else was) 0 ++ (sector (if bitOf m 1 then b else was) 1 ++ (sector (if bitOf m 2 then b else was) 2 ++ (sector (if bitOf m 3 then b else was) 3 ++ []))) := by
    unfold torn; simp [List.range, List.range.loop]
  have e0 := e 0 (by omega); have e1 := e 1 (by omega); have e2 := e 2 (by omega); have e3 := e 3 (by omega)
  rw [ht]
  have go : ∀ (t : List UInt8) (j : Nat), sector t j = (t.drop (64 * j)).take 64 := fun _ _ => rfl
  match k, hk with
  | 0, _ => rw [go _ 0]; exact List.take_left' e0
  | 1, _ => rw [go _ 1, show 64 * 1 = 64 + 0 from rfl, dr _ _ _ e0]; exact List.take_left' e1
  | 2, _ => rw [go _ 2, show 64 * 2 = 64 + (64 + 0) from rfl, dr _ _ _ e0, dr _ _ _ e1]; exact List.take_left' e2
  | 3, _ => rw [go _ 3, show 64 * 3 = 64 + (64 + (64 + 0)) from rfl, dr _ _ _ e0, dr _ _ _ e1, dr _ _ _ e2]; exact List.take_left' e3
def step (d : Dk) (kind i : Int) (b : List UInt8) (masks : List Int) : Dk :=
  if kind = 1 then (d.read i).1 else if kind = 2 then (d.write i b).1 else if kind = 3 then d.flush.1 else if kind = 4 then (d.stop i).1 else if kind = 5 then d.crash masks else d
theorem lastOf_none (n : Nat) : ∀ l : List (Nat × List UInt8), (∀ x ∈ l, x.1 ≠ n) → lastOf n l = none
  | [], _ => rfl
  | x :: l, h => by rw [lastOf, lastOf_none n l (fun y hy => h y (List.mem_cons_of_mem _ hy)), if_neg (h x (List.mem_cons_self ..))]
theorem lastOf_mem (n : Nat) : ∀ (l : List (Nat × List UInt8)) (b : List UInt8), lastOf n l = some b → (n, b) ∈ l
  | [], b, h => by cases h
  | x :: l, b, h => by
    rw [lastOf] at h
    cases hl : lastOf n l with
    | some c =>
      rw [hl] at h
      simp only [Option.some.injEq] at h
      subst h
      exact List.mem_cons_of_mem _ (lastOf_mem n l c hl)
    | none =>
      rw [hl] at h
      simp only at h
      split at h
      · rename_i hx
        simp only [Option.some.injEq] at h
        subst h hx
        exact List.mem_cons_self ..
      · cases h
theorem fit_now {d : Dk} (h : fit d) {n : Nat} (hn : n < d.safe.length) : (d.now n).length = 256 := by
  unfold now
  cases hl : lastOf n d.waits with
  | some b => exact (h.2 _ (lastOf_mem n _ b hl)).2
  | none =>
    simp only [Option.getD_none, List.getD, List.getElem?_eq_getElem hn, Option.getD_some]
    exact h.1 _ (List.getElem_mem hn)
theorem laid_fit (l : List (Nat × List UInt8)) : ∀ safe : List (List UInt8), (∀ b ∈ safe, b.length = 256) → (∀ x ∈ l, x.2.length = 256) → ∀ b ∈ laid safe l, b.length = 256 := by
  induction l with
  | nil => intro safe h _; exact h
  | cons x l ih =>
    intro safe h hx
    rw [laid]
    refine ih _ (fun b hb => ?_) (fun y hy => hx y (List.mem_cons_of_mem _ hy))
    rcases List.mem_or_eq_of_mem_set hb with h1 | h1
    · exact h b h1
    · rw [h1]; exact hx x (List.mem_cons_self ..)
theorem crashed_fit (masks : List Int) (l : List (Nat × List UInt8)) : ∀ (safe : List (List UInt8)) (i : Nat), (∀ b ∈ safe, b.length = 256) → (∀ x ∈ l, x.1 < safe.length ∧ x.2.length = 256) → ∀ b ∈ crashed masks safe l i, b.length = 256 := by
  induction l with
  | nil => intro safe i h _; exact h
  | cons x l ih =>
    intro safe i h hx
    rw [crashed]
    split
    · refine ih _ _ (fun b hb => ?_) (fun y hy => by rw [List.length_set]; exact hx y (List.mem_cons_of_mem _ hy))
      rcases List.mem_or_eq_of_mem_set hb with h1 | h1
      · exact h b h1
      · have h0 := hx x (List.mem_cons_self ..)
        rw [h1]
        refine torn_length _ _ _ ?_ h0.2
        rw [List.getD, List.getElem?_eq_getElem h0.1]
        exact h _ (List.getElem_mem h0.1)
    · exact ih _ _ h (fun y hy => hx y (List.mem_cons_of_mem _ hy))
end Dk
end Go.Proofs.Ytkockhggnbfahaa
end
section
set_option linter.unusedVariables false
set_option linter.unusedSimpArgs false
namespace Go.Proofs.Ytkockhggnbfahaa
open Go.ChangeShapes Go.WideShapes Go.ChangeAt Go.RowKit
theorem Try.own : ownKnob Try.prog.godebug = none := by kernel_rfl
theorem Try.laidOut : laidOutB Try.prog = true := by kernel_rfl
section
variable {H : Type} {enc : TypeId × Value → H} {P : Program}
theorem trodAll_stays (hl : laidOutB P = true) {W W' : World} {sp : Nat → Bool} : ∀ {ts : List TypeId} {vs : List Value} {ds : List (DataW H)} {ps : List MemPlace}, ts.all (fun t => P.readableRec t && decide (t < P.types.size)) = true →
    DataW.TrodAll enc P W 0 (fun _ => true) true ts vs ds ps → (∀ p ∈ ps, W.sameAt W' p) → (∀ p ∈ ps, sp p.block = true) → DataW.TrodAll enc P W' 0 sp true ts vs ds ps := by
  intro ts
  induction ts with
  | nil =>
    intro vs ds ps _ h _ _
    obtain ⟨rfl, rfl, rfl⟩ := trodAll_nil h
    exact trodAll_mk0
  | cons t ts ih =>
    intro vs ds ps hr h hs hp
    obtain ⟨v, vs', d, ds', p, q, rfl, rfl, rfl, h1, h2⟩ := trodAll_cons h
    simp only [List.all_cons, Bool.and_eq_true, decide_eq_true_eq] at hr
    obtain ⟨⟨hr1, hr2⟩, hr3⟩ := hr
    exact trodAll_cons_mk (WideElems.Trod_stays hl hr1 hr2 h1 (fun x hx => hs x (List.mem_append_left _ hx)) (fun x hx => hp x (List.mem_append_left _ hx)))
      (ih hr3 h2 (fun x hx => hs x (List.mem_append_right _ hx)) (fun x hx => hp x (List.mem_append_right _ hx)))
theorem law_post (hl : laidOutB P = true) {f : Func} {s : ChangeSpec} {W W' : World} {args : Array Value} {ds gs : List (DataW H)} {before : List MemPlace}
    (hW : DataW.Whole enc P f.params.toList s.vars false W args.toList ds gs before) (hv : s.vars = [])
    (hres : (s.fn H (ds ++ gs)).results = [.lit (.bool true)]) (hargs : (s.fn H (ds ++ gs)).args = ds) (hvs : (s.fn H (ds ++ gs)).vars = [])
    (hf : f.resultTypes = #[4]) (h4 : P.underlying 4 = some .bool) (hr : f.params.toList.all (fun t => P.readableRec t && decide (t < P.types.size)) = true)
    (hb : Below W.heap.size W W') : s.post enc P f false true false false W args (.bool true) W' := by
  have hlt : ∀ p ∈ before, p.block < W.heap.size := fun p hp => hW.lt p hp
  have hW' := hW
  obtain ⟨p, q, hA, hV, rfl, hfz, hnd⟩ := hW'
  rw [hv] at hV
  obtain ⟨rfl, rfl⟩ := trodVars_none hV
  have hsame : ∀ x ∈ p, W.sameAt W' x := fun x hx => hb.same (hlt x (List.mem_append_left _ hx))
  refine post_of_below (pa := p) (pv := []) hW (fun b sp hd => ?_) (fun sp hsp => ?_) (fun sp _ => ?_) rfl hb ?_
  · rw [hres, hf]
    exact trodAll_mk1 (shut_bool h4 true)
  · rw [hargs]
    exact trodAll_stays hl hr hA hsame (fun x hx => hsp x (List.mem_append_left _ hx))
  · rw [hv, hvs]
    exact rfl
  · exact ok_one hf rfl (okWide_bool_mk h4 true)
theorem open_bytes {W : World} {base : Nat} {t e : TypeId} {v : Value} {d : DataW H} {ps : List MemPlace} (ht : P.underlying t = some (.slice e)) (he : P.underlying e = some (.int .u8)) (hc : P.cellsOf e = 1)
    (hv : Value.okWide P W .any base t v) (h : DataW.Trod enc P W 0 (fun _ => true) true t v d ps) :
    ∃ (A : Option Addr) (L : List UInt8) (c : Nat), v = .slice A L.length c ∧ RB W W.heap.size A L ∧ L.length ≤ c ∧ c ≤ maxLen := by
  obtain ⟨a0, len, cap, rfl⟩ := okWide_slice ht hv
  obtain ⟨fuel, hf⟩ := h
  rcases open_ints ht he hc hf with ⟨hcs, hx⟩ | ⟨a, len', cap', zs, hcs, _, hl, hm, hz, hx, hcell, hwz⟩
  · simp [Value.cells] at hcs
    obtain ⟨rfl, rfl, rfl⟩ := hcs
    exact ⟨none, [], 0, rfl, RB.none_ _ _, Nat.le_refl _, Nat.zero_le _⟩
  · simp [Value.cells] at hcs
    obtain ⟨rfl, rfl, rfl⟩ := hcs
    simp only [if_true] at hz
    have hlen : (zs.take len).length = len := by rw [List.length_take]; omega
    refine ⟨some a, (zs.take len).map (fun z => UInt8.ofNat z.toNat), cap, by rw [List.length_map, hlen], ?_, by rw [List.length_map, hlen]; exact hl, hm⟩
    have hcells : cells ((zs.take len).map (fun z => UInt8.ofNat z.toNat)) = (zs.take len).map (Value.int .u8) := by
      unfold cells
      rw [List.map_map]
      apply List.map_congr_left
      intro z hz'
      have hw := hwz z (List.mem_of_mem_take hz')
      have hb : 0 ≤ z ∧ z ≤ 255 := by simpa [Lit.wf, IntKind.min, IntKind.max, IntKind.signed, IntKind.bits] using hw
      show Value.int .u8 _ = Value.int .u8 z
      rw [ofNat_toNat _ (by omega)]
      congr 1
      omega
    unfold RB
    rw [hcells]
    refine ⟨by simp, fun hn => ?_⟩
    simp only [List.length_map, hlen] at hn
    have h0 := hcell 0 (by omega)
    have hblk := World.block_lt_of_cell? W _ h0
    refine ⟨a, rfl, by rw [block_of_add] at hblk; exact hblk, fun j u hu => ?_⟩
    rw [List.getElem?_map, List.getElem?_take] at hu
    split at hu
    · rename_i hj
      rw [hcell j (by omega)]
      rw [List.getElem?_eq_getElem (by omega)] at hu
      simp only [Option.map_some, Option.some.injEq] at hu
      rw [← hu]
      simp [List.getD, List.getElem?_eq_getElem (show j < zs.length by omega)]
    · cases hu
def RI (w : World) (B : Nat) (A : Option Addr) (Z : List Int) : Prop :=
  0 < Z.length → ∃ b off, A = some ⟨b, off, none⟩ ∧ b < B ∧ ∀ k (hk : k < Z.length), w.cell? ⟨b, off + k, none⟩ = some (.int .i64 Z[k])
theorem RI.below {w w' : World} {B : Nat} {A : Option Addr} {Z : List Int} (h : RI w B A Z) (hb : Below B w w') : RI w' B A Z := fun hn => by
  obtain ⟨b, off, e, hlt, hc⟩ := h hn
  exact ⟨b, off, e, hlt, fun k hk => (hb.cell (p := ⟨b, off + k, none⟩) hlt).trans (hc k hk)⟩
end
theorem list4 {α : Type} (l : List α) (h : (⟨l⟩ : Array α).size = 4) : ∃ a b c d, l = [a, b, c, d] := by
  match l, h with
  | [a, b, c, d], _ => exact ⟨a, b, c, d, rfl⟩
theorem byte_of (x : Int) (h : (Lit.int .u8 x).wf = true) : ∃ t : UInt8, x = (t.toNat : Int) := by
  have hb : 0 ≤ x ∧ x ≤ 255 := by simpa [Lit.wf, IntKind.min, IntKind.max, IntKind.signed, IntKind.bits] using h
  refine ⟨UInt8.ofNat x.toNat, ?_⟩
  rw [ofNat_toNat _ (by omega)]
  omega
end Go.Proofs.Ytkockhggnbfahaa
end
