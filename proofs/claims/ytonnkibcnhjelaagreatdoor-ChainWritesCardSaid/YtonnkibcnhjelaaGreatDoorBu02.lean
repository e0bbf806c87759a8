/- Lemmas under the proofs of this place: SectPlain, DiskPlain, Only, Law. No statement is proved here. -/
import Derived.Test.YtonnkibcnhjelaaGreatDoorBu00
import Derived.Test.YtonnkibcnhjelaaGreatDoorRows
import Derived.ProofKit
import Derived.OpenShut
import Derived.Laws.IdiomArrays
section
set_option linter.unusedVariables false
namespace Go.Proofs.YtonnkibcnhjelaaGreatDoor
structure Sd where
  kind : Int
  epoch : Int
  number : Int
  left : Int
  data : List UInt8
instance : DecidableEq Sd := fun a b =>
  if h : a.kind = b.kind ∧ a.epoch = b.epoch ∧ a.number = b.number ∧ a.left = b.left ∧ a.data = b.data then
    .isTrue (by obtain ⟨h1, h2, h3, h4, h5⟩ := h; cases a; cases b; simp only at h1 h2 h3 h4 h5; subst h1 h2 h3 h4 h5; rfl)
  else .isFalse (fun e => h (by subst e; exact ⟨rfl, rfl, rfl, rfl, rfl⟩))
def Sd.zero : Sd := ⟨0, 0, 0, 0, []⟩
def Sd.may (s : Sd) : Bool := decide (1 ≤ s.kind) && (decide (s.kind ≤ 255) && (decide (0 ≤ s.epoch) && (decide (s.epoch ≤ 2147483647) && (decide (0 ≤ s.number) && (decide (s.number ≤ 2147483647) && (decide (0 ≤ s.left) && (decide (s.left ≤ 65535) && decide (s.data.length ≤ 48))))))))
theorem Sd.may_iff (s : Sd) : s.may = true ↔ 1 ≤ s.kind ∧ s.kind ≤ 255 ∧ 0 ≤ s.epoch ∧ s.epoch ≤ 2147483647 ∧ 0 ≤ s.number ∧ s.number ≤ 2147483647 ∧ 0 ≤ s.left ∧ s.left ≤ 65535 ∧ s.data.length ≤ 48 := by
  unfold Sd.may
  simp only [Bool.and_eq_true, decide_eq_true_eq]
def Sd.head (s : Sd) : List UInt8 := UInt8.ofNat s.kind.toNat :: UInt8.ofNat s.data.length :: (fixL 2 s.left.toNat ++ (fixL 4 s.epoch.toNat ++ fixL 4 s.number.toNat))
def Sd.body (s : Sd) : List UInt8 := s.head ++ (s.data ++ List.replicate (48 - s.data.length) 0)
def Sd.bytes (s : Sd) : List UInt8 := sealL s.body
theorem Sd.head_length (s : Sd) : s.head.length = 12 := by
  unfold Sd.head
  simp [fixL_length]
theorem Sd.body_length (s : Sd) (h : s.data.length ≤ 48) : s.body.length = 60 := by
  unfold Sd.body
  rw [List.length_append, List.length_append, List.length_replicate, Sd.head_length]
  omega
theorem Sd.bytes_length (s : Sd) (h : s.data.length ≤ 48) : s.bytes.length = 64 := by
  unfold Sd.bytes
  rw [sealL_length, Sd.body_length s h]
theorem fixL_two (n : Nat) : ∃ a b, fixL 2 n = [a, b] := ⟨_, _, rfl⟩
theorem fixL_four (n : Nat) : ∃ a b c d, fixL 4 n = [a, b, c, d] := ⟨_, _, _, _, rfl⟩
theorem fix_unfix6 : ∀ (l : List UInt8), fixL l.length (unfixL l) = l
  | [] => rfl
  | x :: l => by
    have hx := x.toNat_lt
    show fixL (l.length + 1) (x.toNat + 256 * unfixL l) = x :: l
    have h1 : (x.toNat + 256 * unfixL l) % 256 = x.toNat := by omega
    have h2 : (x.toNat + 256 * unfixL l) / 256 = unfixL l := by omega
    rw [fixL, h1, h2, fix_unfix6 l, ofNat_byte]
theorem openL_some {b c : List UInt8} (h : openL b = some c) : b = sealL c ∧ c.length + 4 = b.length := by
  unfold openL at h
  split at h
  · rename_i h1
    injection h with h
    subst h
    exact ⟨h1.2.symm, by rw [List.length_take]; omega⟩
  · cases h
def Sd.part (s : Sd) (t : List UInt8) (n i : Nat) : Sd := ⟨if i = 0 then s.kind else s.kind + 1, s.epoch, s.number + (i : Int), ((n - 1 - i : Nat) : Int), (t.drop (48 * i)).take 48⟩
end Go.Proofs.YtonnkibcnhjelaaGreatDoor
end
section
set_option linter.unusedVariables false
namespace Go.Proofs.YtonnkibcnhjelaaGreatDoor
structure Dk where
  safe : List (List UInt8)
  waits : List (Nat × List UInt8)
  left : Int
  off : Bool
  reads : Nat
  writes : Nat
  flushes : Nat
deriving DecidableEq
namespace Dk
def lastOf (n : Nat) : List (Nat × List UInt8) → Option (List UInt8)
  | [] => none
  | x :: l => match lastOf n l with
    | some b => some b
    | none => if x.1 = n then some x.2 else none
def now (d : Dk) (n : Nat) : List UInt8 := (lastOf n d.waits).getD (d.safe.getD n [])
def there (d : Dk) (i : Int) : Bool := decide (0 ≤ i ∧ i < d.safe.length)
def blank (n : Nat) : Dk := ⟨List.replicate n (List.replicate 256 0), [], -1, false, 0, 0, 0⟩
def read (d : Dk) (i : Int) : Dk × List UInt8 × Int :=
  if d.off then (d, [], 9) else if !d.there i then (d, [], 10) else ({ d with reads := d.reads + 1 }, d.now i.toNat, 0)
def deed (d : Dk) : Dk × Bool :=
  if d.left = 0 then ({ d with off := true }, false) else if 0 < d.left then ({ d with left := d.left - 1 }, true) else (d, true)
def write (d : Dk) (i : Int) (b : List UInt8) : Dk × Int :=
  if d.off then (d, 9) else if !d.there i then (d, 10) else if b.length ≠ 256 then (d, 11)
  else match deed { d with waits := d.waits ++ [(i.toNat, b)] } with
    | (e, false) => (e, 9)
    | (e, true) => ({ e with writes := e.writes + 1 }, 0)
def laid (safe : List (List UInt8)) : List (Nat × List UInt8) → List (List UInt8)
  | [] => safe
  | x :: l => laid (safe.set x.1 x.2) l
def flush (d : Dk) : Dk × Int :=
  if d.off then (d, 9) else match deed d with
    | (e, false) => (e, 9)
    | (e, true) => ({ e with safe := laid e.safe e.waits, waits := [], flushes := e.flushes + 1 }, 0)
def stop (d : Dk) (i : Int) : Dk × Int := if i < 0 then (d, 1) else ({ d with left := i }, 0)
def bitOf (m : Int) (k : Nat) : Bool := decide (m / 2 ^ k % 2 = 1)
def sector (b : List UInt8) (k : Nat) : List UInt8 := (b.drop (64 * k)).take 64
def torn (was b : List UInt8) (m : Int) : List UInt8 := (List.range 4).flatMap fun k => sector (if bitOf m k then b else was) k
def crashed (masks : List Int) (safe : List (List UInt8)) : List (Nat × List UInt8) → Nat → List (List UInt8)
  | [], _ => safe
  | x :: l, i => if i < masks.length then crashed masks (safe.set x.1 (torn (safe.getD x.1 []) x.2 (masks.getD i 0))) l (i + 1) else crashed masks safe l (i + 1)
def crash (d : Dk) (masks : List Int) : Dk := { d with safe := crashed masks d.safe d.waits 0, waits := [], off := false, left := -1 }
def image (d : Dk) : List UInt8 := (List.range d.safe.length).flatMap d.now
def sure (d : Dk) : List UInt8 := d.safe.flatten
def fit (d : Dk) : Prop := (∀ b ∈ d.safe, b.length = 256) ∧ ∀ x ∈ d.waits, x.1 < d.safe.length ∧ x.2.length = 256
theorem lastOf_append (n : Nat) (l : List (Nat × List UInt8)) (x : Nat × List UInt8) : lastOf n (l ++ [x]) = if x.1 = n then some x.2 else lastOf n l := by
  induction l with
  | nil => simp [lastOf]
  | cons y l ih =>
    rw [List.cons_append, lastOf, ih, lastOf]
    by_cases h : x.1 = n
    · simp [h]
    · simp [h]
theorem laid_length (l : List (Nat × List UInt8)) : ∀ safe : List (List UInt8), (laid safe l).length = safe.length := by
  induction l with
  | nil => intro safe; rfl
  | cons x l ih => intro safe; rw [laid, ih]; simp
theorem crashed_length (masks : List Int) (l : List (Nat × List UInt8)) : ∀ (safe : List (List UInt8)) (i : Nat), (crashed masks safe l i).length = safe.length := by
  induction l with
  | nil => intro safe i; rfl
  | cons x l ih =>
    intro safe i
    rw [crashed]
    split
    · rw [ih]; simp
    · rw [ih]
theorem laid_get (n : Nat) (l : List (Nat × List UInt8)) : ∀ safe : List (List UInt8), n < safe.length → (laid safe l).getD n [] = (lastOf n l).getD (safe.getD n []) := by
  induction l with
  | nil => intro safe _; rfl
  | cons x l ih =>
    intro safe hn
    rw [laid, ih _ (by simpa using hn), lastOf]
    cases lastOf n l with
    | some b => rfl
    | none =>
      by_cases h : x.1 = n
      · rw [if_pos h, h]; simp [List.getD, List.getElem?_set_self hn]
      · rw [if_neg h]; simp [List.getD, List.getElem?_set_ne h]
theorem crashed_other (masks : List Int) (n : Nat) (l : List (Nat × List UInt8)) : ∀ (safe : List (List UInt8)) (i : Nat), (∀ x ∈ l, x.1 ≠ n) → (crashed masks safe l i).getD n [] = safe.getD n [] := by
  induction l with
  | nil => intro safe i _; rfl
  | cons x l ih =>
    intro safe i h
    have hx : x.1 ≠ n := h x (List.mem_cons_self ..)
    rw [crashed]
    split
    · rw [ih _ _ (fun y hy => h y (List.mem_cons_of_mem _ hy))]; simp [List.getD, List.getElem?_set_ne hx]
    · exact ih _ _ (fun y hy => h y (List.mem_cons_of_mem _ hy))
theorem torn_length (was b : List UInt8) (m : Int) (h1 : was.length = 256) (h2 : b.length = 256) : (torn was b m).length = 256 := by
  unfold torn
  have e : ∀ k, k < 4 → (sector (if bitOf m k then b else was) k).length = 64 := fun k hk => by
    unfold sector
    split <;> simp <;> omega
  simp only [List.range, List.range.loop, List.flatMap_cons, List.flatMap_nil, List.length_append, List.length_nil]
  rw [e 0 (by omega), e 1 (by omega), e 2 (by omega), e 3 (by omega)]
def step (d : Dk) (kind i : Int) (b : List UInt8) (masks : List Int) : Dk :=
  if kind = 1 then (d.read i).1 else if kind = 2 then (d.write i b).1 else if kind = 3 then d.flush.1 else if kind = 4 then (d.stop i).1 else if kind = 5 then d.crash masks else d
def calm (n : Nat) (b : List UInt8) (d : Dk) : Prop := n < d.safe.length ∧ d.safe.getD n [] = b ∧ ∀ x ∈ d.waits, x.1 ≠ n
theorem lastOf_none (n : Nat) : ∀ l : List (Nat × List UInt8), (∀ x ∈ l, x.1 ≠ n) → lastOf n l = none
  | [], _ => rfl
  | x :: l, h => by rw [lastOf, lastOf_none n l (fun y hy => h y (List.mem_cons_of_mem _ hy)), if_neg (h x (List.mem_cons_self ..))]
theorem calm_now {n : Nat} {b : List UInt8} {d : Dk} (h : calm n b d) : d.now n = b := by
  unfold now; rw [lastOf_none n _ h.2.2]; exact h.2.1
theorem calm_flush {n : Nat} {d : Dk} (hn : n < d.safe.length) (h : d.flush.2 = 0) : calm n (d.now n) d.flush.1 := by
  unfold flush at h ⊢
  cases ho : d.off with
  | true => rw [ho] at h; simp at h
  | false =>
    rw [ho] at h
    simp only [Bool.false_eq_true, if_false] at h ⊢
    unfold deed at h ⊢
    split at h
    · rename_i e
      split at e
      · simp at h
      · split at e <;> simp at e
    · rename_i e
      split at e
      · simp at e
      · split at e
        · obtain ⟨rfl, _⟩ := Prod.mk.injEq .. ▸ e
          refine ⟨by simpa [laid_length] using hn, ?_, by simp⟩
          simp only [now]
          exact laid_get n d.waits d.safe hn
        · obtain ⟨rfl, _⟩ := Prod.mk.injEq .. ▸ e
          refine ⟨by simpa [laid_length] using hn, ?_, by simp⟩
          simp only [now]
          exact laid_get n d.waits d.safe hn
theorem laid_other (n : Nat) (l : List (Nat × List UInt8)) (safe : List (List UInt8)) (hn : n < safe.length) (h : ∀ x ∈ l, x.1 ≠ n) : (laid safe l).getD n [] = safe.getD n [] := by
  rw [laid_get n l safe hn, lastOf_none n l h]; rfl
theorem deed_same (d : Dk) : (deed d).1.safe = d.safe ∧ (deed d).1.waits = d.waits := by
  unfold deed
  split
  · exact ⟨rfl, rfl⟩
  · split <;> exact ⟨rfl, rfl⟩
theorem calm_step {n : Nat} {b : List UInt8} {d : Dk} (h : calm n b d) (kind i : Int) (c : List UInt8) (masks : List Int) (hne : ¬ (kind = 2 ∧ i = (n : Int))) : calm n b (step d kind i c masks) := by
  unfold step
  split
  · unfold read; split
    · exact h
    · split <;> exact h
  · split
    · rename_i h2
      have hin : ¬ i = (n : Int) := fun e => hne ⟨h2, e⟩
      unfold write
      split
      · exact h
      · split
        · exact h
        · rename_i ht
          split
          · exact h
          · have hi : i.toNat ≠ n := by
              have : d.there i = true := by simpa using ht
              unfold there at this
              rw [decide_eq_true_eq] at this
              omega
            have hd := deed_same { d with waits := d.waits ++ [(i.toNat, c)] }
            have hc : calm n b { d with waits := d.waits ++ [(i.toNat, c)] } := ⟨h.1, h.2.1, fun x hx => by
              rcases List.mem_append.1 hx with h3 | h3
              · exact h.2.2 x h3
              · rw [List.mem_singleton] at h3; subst h3; exact hi⟩
            cases hq : deed { d with waits := d.waits ++ [(i.toNat, c)] } with
            | mk e q =>
              rw [hq] at hd
              have he : calm n b e := ⟨by rw [hd.1]; exact hc.1, by rw [hd.1]; exact hc.2.1, by rw [hd.2]; exact hc.2.2⟩
              cases q <;> exact he
    · split
      · unfold flush
        split
        · exact h
        · have hd := deed_same d
          cases hq : deed d with
          | mk e q =>
            rw [hq] at hd
            cases q with
            | false => exact ⟨by rw [hd.1]; exact h.1, by rw [hd.1]; exact h.2.1, by rw [hd.2]; exact h.2.2⟩
            | true =>
              simp only at hd
              refine ⟨by simp only [laid_length, hd.1]; exact h.1, ?_, by simp⟩
              simp only [hd.1, hd.2]
              rw [laid_other n _ _ h.1 h.2.2]; exact h.2.1
      · split
        · unfold stop
          split <;> exact h
        · split
          · refine ⟨by simp only [crash, crashed_length]; exact h.1, ?_, by simp [crash]⟩
            simp only [crash]
            rw [crashed_other masks n _ _ _ h.2.2]; exact h.2.1
          · exact h
theorem lastOf_mem (n : Nat) : ∀ (l : List (Nat × List UInt8)) (b : List UInt8), lastOf n l = some b → (n, b) ∈ l
  | [], b, h => by cases h
  | x :: l, b, h => by
    rw [lastOf] at h
    cases hl : lastOf n l with
    | some c =>
      rw [hl] at h
      simp only [Option.some.injEq] at h
      subst h
      exact List.mem_cons_of_mem _ (lastOf_mem n l c hl)
    | none =>
      rw [hl] at h
      simp only at h
      split at h
      · rename_i hx
        simp only [Option.some.injEq] at h
        subst h hx
        exact List.mem_cons_self ..
      · cases h
theorem fit_now {d : Dk} (h : fit d) {n : Nat} (hn : n < d.safe.length) : (d.now n).length = 256 := by
  unfold now
  cases hl : lastOf n d.waits with
  | some b => exact (h.2 _ (lastOf_mem n _ b hl)).2
  | none =>
    simp only [Option.getD_none, List.getD, List.getElem?_eq_getElem hn, Option.getD_some]
    exact h.1 _ (List.getElem_mem hn)
theorem laid_fit (l : List (Nat × List UInt8)) : ∀ safe : List (List UInt8), (∀ b ∈ safe, b.length = 256) → (∀ x ∈ l, x.2.length = 256) → ∀ b ∈ laid safe l, b.length = 256 := by
  induction l with
  | nil => intro safe h _; exact h
  | cons x l ih =>
    intro safe h hx
    rw [laid]
    refine ih _ (fun b hb => ?_) (fun y hy => hx y (List.mem_cons_of_mem _ hy))
    rcases List.mem_or_eq_of_mem_set hb with h1 | h1
    · exact h b h1
    · rw [h1]; exact hx x (List.mem_cons_self ..)
theorem crashed_fit (masks : List Int) (l : List (Nat × List UInt8)) : ∀ (safe : List (List UInt8)) (i : Nat), (∀ b ∈ safe, b.length = 256) → (∀ x ∈ l, x.1 < safe.length ∧ x.2.length = 256) → ∀ b ∈ crashed masks safe l i, b.length = 256 := by
  induction l with
  | nil => intro safe i h _; exact h
  | cons x l ih =>
    intro safe i h hx
    rw [crashed]
    split
    · refine ih _ _ (fun b hb => ?_) (fun y hy => by rw [List.length_set]; exact hx y (List.mem_cons_of_mem _ hy))
      rcases List.mem_or_eq_of_mem_set hb with h1 | h1
      · exact h b h1
      · have h0 := hx x (List.mem_cons_self ..)
        rw [h1]
        refine torn_length _ _ _ ?_ h0.2
        rw [List.getD, List.getElem?_eq_getElem h0.1]
        exact h _ (List.getElem_mem h0.1)
    · exact ih _ _ h (fun y hy => hx y (List.mem_cons_of_mem _ hy))
end Dk
end Go.Proofs.YtonnkibcnhjelaaGreatDoor
end
section
set_option linter.unusedVariables false
namespace Go.Proofs.YtonnkibcnhjelaaGreatDoor
open Go.RowKit
abbrev Only (w w' : World) (g : Nat) : Prop := w.grownBy w' (some g)
theorem only_trans {a b c : World} {g : Nat} (h : Only a b g) (k : Only b c g) : Only a c g :=
  ⟨k.os.trans h.os, k.tape.trans h.tape, k.output.trans h.output, Nat.le_trans h.size k.size, fun i hi hn => (k.block i (Nat.lt_of_lt_of_le hi h.size) hn).trans (h.block i hi hn)⟩
theorem only_refl (w : World) (g : Nat) : Only w w g := ⟨rfl, rfl, rfl, Nat.le_refl _, fun _ _ _ => rfl⟩
theorem only_set (w : World) (g i : Nat) (u : Value) : Only w (w.setCell ⟨g, i, none⟩ u) g :=
  ⟨rfl, rfl, rfl, by simp [World.setCell], fun k _ hk => heap_setCell_other w ⟨g, i, none⟩ k u (fun e => hk (by simp [e]))⟩
theorem only_below {a w : World} (h : Below a.heap.size a w) (g : Nat) : Only a w g := ⟨h.os, h.tape, h.output, h.size, fun i hi _ => h.block i hi⟩
theorem below_only {B g : Nat} {a w w' : World} (h : Below B a w) (k : Only w w' g) (hg : B ≤ g) (hB : B ≤ w.heap.size) : Below B a w' :=
  h.trans ⟨k.os, k.tape, k.output, k.size, fun i hi => k.block i (by omega) (by simp; omega)⟩
theorem only_alloc {a w : World} {g : Nat} (h : Only a w g) (o : Obj) : Only a (w.alloc o) g :=
  ⟨h.os, h.tape, h.output, Nat.le_trans h.size (by simp), fun i hi hne => (Below.heap_alloc w o i (Nat.lt_of_lt_of_le hi h.size)).trans (h.block i hi hne)⟩
theorem below_drew {B : Nat} {w w' : World} (h : Below B w.drew w') : Below B w w' := ⟨h.os, h.tape, h.output, h.size, h.block⟩
theorem Reads.only {w w' : World} {B size n g : Nat} {A : Option Addr} {xs : List Value} (h : Reads w B size A n xs) (hl : B ≤ w.heap.size) (ho : Only w w' g) (ha : ∀ ad, A = some ad → ad.block ≠ g) : Reads w' B size A n xs := by
  refine ⟨h.1, fun h0 => ?_⟩
  obtain ⟨ad, e, hb, hc⟩ := h.2 h0
  refine ⟨ad, e, hb, fun j u hu => ?_⟩
  have := ho.block ad.block (by omega) (by simp; exact ha ad e)
  have h1 := hc j u hu
  have eb : (ad.add j).block = ad.block := block_of_add _ _
  unfold World.cell? at h1 ⊢
  rw [eb, this]
  rw [eb] at h1
  exact h1
theorem Blk.only {w w' : World} {g k : Nat} {t : TypeId} {cs : Array Value} (h : Blk w g t cs) (ho : Only w w' k) (hg : g ≠ k) : Blk w' g t cs := by
  have := ho.block g h.lt (by simp; omega)
  unfold Blk at h ⊢
  rw [this]; exact h
end Go.Proofs.YtonnkibcnhjelaaGreatDoor
end
section
set_option linter.unusedVariables false
set_option linter.unusedSimpArgs false
namespace Go.Proofs.YtonnkibcnhjelaaGreatDoor
open Go.ChangeShapes Go.WideShapes Go.ChangeAt Go.RowKit
theorem Tryz.own : ownKnob Tryz.prog.godebug = none := by kernel_rfl
theorem Tryz.laidOut : laidOutB Tryz.prog = true := by kernel_rfl
section
variable {H : Type} {enc : TypeId × Value → H} {P : Program}
theorem trodAll_stays (hl : laidOutB P = true) {W W' : World} {sp : Nat → Bool} : ∀ {ts : List TypeId} {vs : List Value} {ds : List (DataW H)} {ps : List MemPlace}, ts.all (fun t => P.readableRec t && decide (t < P.types.size)) = true →
    DataW.TrodAll enc P W 0 (fun _ => true) true ts vs ds ps → (∀ p ∈ ps, W.sameAt W' p) → (∀ p ∈ ps, sp p.block = true) → DataW.TrodAll enc P W' 0 sp true ts vs ds ps := by
  intro ts
  induction ts with
  | nil =>
    intro vs ds ps _ h _ _
    obtain ⟨rfl, rfl, rfl⟩ := trodAll_nil h
    exact trodAll_mk0
  | cons t ts ih =>
    intro vs ds ps hr h hs hp
    obtain ⟨v, vs', d, ds', p, q, rfl, rfl, rfl, h1, h2⟩ := trodAll_cons h
    simp only [List.all_cons, Bool.and_eq_true, decide_eq_true_eq] at hr
    obtain ⟨⟨hr1, hr2⟩, hr3⟩ := hr
    exact trodAll_cons_mk (WideElems.Trod_stays hl hr1 hr2 h1 (fun x hx => hs x (List.mem_append_left _ hx)) (fun x hx => hp x (List.mem_append_left _ hx)))
      (ih hr3 h2 (fun x hx => hs x (List.mem_append_right _ hx)) (fun x hx => hp x (List.mem_append_right _ hx)))
theorem law_post (hl : laidOutB P = true) {f : Func} {s : ChangeSpec} {W W' : World} {args : Array Value} {ds gs : List (DataW H)} {before : List MemPlace}
    (hW : DataW.Whole enc P f.params.toList s.vars false W args.toList ds gs before) (hv : s.vars = [])
    (hres : (s.fn H (ds ++ gs)).results = [.lit (.bool true)]) (hargs : (s.fn H (ds ++ gs)).args = ds) (hvs : (s.fn H (ds ++ gs)).vars = [])
    (hf : f.resultTypes = #[4]) (h4 : P.underlying 4 = some .bool) (hr : f.params.toList.all (fun t => P.readableRec t && decide (t < P.types.size)) = true)
    (hb : Below W.heap.size W W') : s.post enc P f false true false false W args (.bool true) W' := by
  have hlt : ∀ p ∈ before, p.block < W.heap.size := fun p hp => hW.lt p hp
  have hW' := hW
  obtain ⟨p, q, hA, hV, rfl, hfz, hnd⟩ := hW'
  rw [hv] at hV
  obtain ⟨rfl, rfl⟩ := trodVars_none hV
  have hsame : ∀ x ∈ p, W.sameAt W' x := fun x hx => hb.same (hlt x (List.mem_append_left _ hx))
  refine post_of_below (pa := p) (pv := []) hW (fun b sp hd => ?_) (fun sp hsp => ?_) (fun sp _ => ?_) rfl hb ?_
  · rw [hres, hf]
    exact trodAll_mk1 (shut_bool h4 true)
  · rw [hargs]
    exact trodAll_stays hl hr hA hsame (fun x hx => hsp x (List.mem_append_left _ hx))
  · rw [hv, hvs]
    exact rfl
  · exact ok_one hf rfl (okWide_bool_mk h4 true)
def RI (w : World) (B : Nat) (A : Option Addr) (Z : List Int) : Prop :=
  0 < Z.length → ∃ b off, A = some ⟨b, off, none⟩ ∧ b < B ∧ ∀ k (hk : k < Z.length), w.cell? ⟨b, off + k, none⟩ = some (.int .i64 Z[k])
theorem RI.below {w w' : World} {B : Nat} {A : Option Addr} {Z : List Int} (h : RI w B A Z) (hb : Below B w w') : RI w' B A Z := fun hn => by
  obtain ⟨b, off, e, hlt, hc⟩ := h hn
  exact ⟨b, off, e, hlt, fun k hk => (hb.cell (p := ⟨b, off + k, none⟩) hlt).trans (hc k hk)⟩
theorem open_intl {W : World} {base : Nat} {t e : TypeId} {v : Value} {d : DataW H} {ps : List MemPlace} (ht : P.underlying t = some (.slice e)) (he : P.underlying e = some (.int .i64)) (hc : P.cellsOf e = 1)
    (hv : Value.okWide P W .any base t v) (h : DataW.Trod enc P W 0 (fun _ => true) true t v d ps) :
    ∃ (A : Option Addr) (Z : List Int) (c : Nat), v = .slice A Z.length c ∧ RI W W.heap.size A Z ∧ Z.length ≤ c ∧ c ≤ maxLen ∧ ∀ z ∈ Z, (Lit.int .i64 z).wf = true := by
  obtain ⟨a0, len, cap, rfl⟩ := okWide_slice ht hv
  obtain ⟨fuel, hf⟩ := h
  rcases open_ints ht he hc hf with ⟨hcs, hx⟩ | ⟨a, len', cap', zs, hcs, _, hl, hm, hz, hx, hcell, hwz⟩
  · simp [Value.cells] at hcs
    obtain ⟨rfl, rfl, rfl⟩ := hcs
    exact ⟨none, [], 0, rfl, fun h => absurd h (by simp), Nat.le_refl _, Nat.zero_le _, fun z hz => by cases hz⟩
  · simp [Value.cells] at hcs
    obtain ⟨rfl, rfl, rfl⟩ := hcs
    simp only [if_true] at hz
    have hlen : (zs.take len).length = len := by rw [List.length_take]; omega
    refine ⟨some a, zs.take len, cap, by rw [hlen], fun hn => ?_, by rw [hlen]; exact hl, hm, fun z hz' => hwz z (List.mem_of_mem_take hz')⟩
    rw [hlen] at hn
    obtain ⟨b, off, rfl, hcc⟩ := ints_at hcell (by omega)
    have hblk := World.block_lt_of_cell? W _ (hcc 0 (by omega))
    refine ⟨b, off, rfl, hblk, fun k hk => ?_⟩
    rw [hlen] at hk
    rw [hcc k (by omega)]
    simp [List.getD, List.getElem?_eq_getElem (show k < zs.length by omega), List.getElem_take]
end
end Go.Proofs.YtonnkibcnhjelaaGreatDoor
end
