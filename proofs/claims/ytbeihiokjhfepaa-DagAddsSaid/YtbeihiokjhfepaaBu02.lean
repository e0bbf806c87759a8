/- Lemmas under the proofs of this place: IdsPlain, Only, Guard. No statement is proved here. -/
import Derived.Test.YtbeihiokjhfepaaBu00
import GoSem.Op.String
import Derived.StillTail
set_option linter.unusedVariables false
namespace Go.Proofs.Ytbeihiokjhfepaa
section
open Go.Op
abbrev Bs := List UInt8
theorem less_nil_right (a : Bs) : bytesLess a [] = false := by cases a <;> rfl
theorem less_cons (a b : UInt8) (x y : Bs) : bytesLess (a :: x) (b :: y) = (decide (a < b) || (a == b && bytesLess x y)) := rfl
theorem less_irrefl : ∀ a : Bs, bytesLess a a = false
  | [] => rfl
  | a :: x => by
    rw [less_cons, less_irrefl x]
    have : ¬ a < a := by rw [UInt8.lt_iff_toNat_lt]; omega
    simp [this]
theorem less_trans : ∀ a b c : Bs, bytesLess a b = true → bytesLess b c = true → bytesLess a c = true
  | a, b, [], h1, h2 => by rw [less_nil_right] at h2; cases h2
  | a, [], c :: z, h1, h2 => by rw [less_nil_right] at h1; cases h1
  | [], b :: y, c :: z, h1, h2 => rfl
  | a :: x, b :: y, c :: z, h1, h2 => by
    rw [less_cons] at h1 h2 ⊢
    simp only [Bool.or_eq_true, decide_eq_true_eq, Bool.and_eq_true, beq_iff_eq] at h1 h2 ⊢
    rcases h1 with h1 | ⟨rfl, h1⟩
    · rcases h2 with h2 | ⟨rfl, h2⟩
      · left; rw [UInt8.lt_iff_toNat_lt] at *; omega
      · left; exact h1
    · rcases h2 with h2 | ⟨rfl, h2⟩
      · left; exact h2
      · right; exact ⟨rfl, less_trans x y z h1 h2⟩
theorem less_total : ∀ a b : Bs, a ≠ b → bytesLess a b = true ∨ bytesLess b a = true
  | [], [], h => absurd rfl h
  | [], b :: y, h => .inl rfl
  | a :: x, [], h => .inr rfl
  | a :: x, b :: y, h => by
    rw [less_cons, less_cons]
    simp only [Bool.or_eq_true, decide_eq_true_eq, Bool.and_eq_true, beq_iff_eq]
    by_cases e : a = b
    · subst e
      have : x ≠ y := fun e => h (by rw [e])
      rcases less_total x y this with h | h
      · exact .inl (.inr ⟨rfl, h⟩)
      · exact .inr (.inr ⟨rfl, h⟩)
    · have : a.toNat ≠ b.toNat := fun e2 => e (UInt8.toNat_inj.1 e2)
      by_cases hlt : a.toNat < b.toNat
      · exact .inl (.inl (UInt8.lt_iff_toNat_lt.2 hlt))
      · exact .inr (.inl (UInt8.lt_iff_toNat_lt.2 (by omega)))
theorem less_ne {a b : Bs} (h : bytesLess a b = true) : a ≠ b := fun e => by rw [e, less_irrefl] at h; cases h
theorem less_asymm {a b : Bs} (h : bytesLess a b = true) : bytesLess b a = false := by
  cases h2 : bytesLess b a with
  | false => rfl
  | true => have := less_trans a b a h h2; rw [less_irrefl] at this; cases this
abbrev Up (l : List Bs) : Prop := l.Pairwise fun a b => bytesLess a b = true
def rightB (a : Bs) : Bool := a.length == 32
theorem up_ext : ∀ {a b : List Bs}, Up a → Up b → (∀ x, x ∈ a ↔ x ∈ b) → a = b
  | [], [], _, _, _ => rfl
  | [], y :: b, _, _, h => absurd ((h y).2 (List.mem_cons_self ..)) (by simp)
  | x :: a, [], _, _, h => absurd ((h x).1 (List.mem_cons_self ..)) (by simp)
  | x :: a, y :: b, ha, hb, h => by
    have hxa := List.pairwise_cons.1 ha
    have hyb := List.pairwise_cons.1 hb
    have e : x = y := by
      rcases List.mem_cons.1 ((h x).1 (List.mem_cons_self ..)) with e | hx
      · exact e
      · rcases List.mem_cons.1 ((h y).2 (List.mem_cons_self ..)) with e | hy
        · exact e.symm
        · have h1 := hyb.1 x hx
          have h2 := hxa.1 y hy
          have := less_trans x y x h2 h1
          rw [less_irrefl] at this; cases this
    subst e
    congr 1
    refine up_ext hxa.2 hyb.2 fun z => ⟨fun hz => ?_, fun hz => ?_⟩
    · rcases List.mem_cons.1 ((h z).1 (List.mem_cons_of_mem _ hz)) with e | hz'
      · subst e; have := hxa.1 z hz; rw [less_irrefl] at this; cases this
      · exact hz'
    · rcases List.mem_cons.1 ((h z).2 (List.mem_cons_of_mem _ hz)) with e | hz'
      · subst e; have := hyb.1 z hz; rw [less_irrefl] at this; cases this
      · exact hz'
def placeL (l : List Bs) (x : Bs) : Nat := (l.takeWhile fun a => bytesLess a x).length
theorem placeL_le (l : List Bs) (x : Bs) : placeL l x ≤ l.length := by
  unfold placeL
  exact List.Sublist.length_le (List.takeWhile_sublist _)
theorem placeL_cons (a : Bs) (l : List Bs) (x : Bs) : placeL (a :: l) x = if bytesLess a x then placeL l x + 1 else 0 := by
  unfold placeL
  rw [List.takeWhile_cons]
  split <;> simp
theorem placeL_lt (l : List Bs) (x : Bs) : ∀ k, (h : k < placeL l x) → bytesLess (l.getD k []) x = true := by
  induction l with
  | nil => intro k h; simp [placeL] at h
  | cons a l ih =>
    intro k h
    rw [placeL_cons] at h
    split at h
    · rename_i ha
      cases k with
      | zero => simpa using ha
      | succ k => simpa using ih k (by omega)
    · omega
theorem placeL_at (l : List Bs) (x : Bs) (h : placeL l x < l.length) : bytesLess (l.getD (placeL l x) []) x = false := by
  induction l with
  | nil => simp at h
  | cons a l ih =>
    rw [placeL_cons] at h ⊢
    split
    · rename_i ha
      rw [if_pos ha] at h
      simpa using ih (by simpa using h)
    · rename_i ha
      simpa using ha
theorem placeL_unique (l : List Bs) (x : Bs) (k : Nat) (hk : k ≤ l.length) (h1 : ∀ j, j < k → bytesLess (l.getD j []) x = true) (h2 : k < l.length → bytesLess (l.getD k []) x = false) : k = placeL l x := by
  have hp := placeL_le l x
  rcases Nat.lt_trichotomy k (placeL l x) with h | h | h
  · have := placeL_lt l x k h
    rw [h2 (by omega)] at this; cases this
  · exact h
  · have := h1 _ h
    rw [placeL_at l x (by omega)] at this; cases this
def withL (l : List Bs) (x : Bs) : List Bs :=
  if placeL l x < l.length ∧ l.getD (placeL l x) [] = x then l else l.take (placeL l x) ++ x :: l.drop (placeL l x)
theorem withL_mem (l : List Bs) (x y : Bs) : y ∈ withL l x ↔ y ∈ l ∨ y = x := by
  unfold withL
  split
  · rename_i h
    refine ⟨.inl, fun hy => ?_⟩
    rcases hy with hy | hy
    · exact hy
    · subst hy
      have e := h.2
      rw [List.getD, List.getElem?_eq_getElem h.1] at e
      simp only [Option.getD_some] at e
      rw [← e]; exact List.getElem_mem _
  · constructor
    · intro hy
      rcases List.mem_append.1 hy with hy | hy
      · exact .inl (List.mem_of_mem_take hy)
      · rcases List.mem_cons.1 hy with hy | hy
        · exact .inr hy
        · exact .inl (List.mem_of_mem_drop hy)
    · intro hy
      rcases hy with hy | hy
      · rw [← List.take_append_drop (placeL l x) l] at hy
        rcases List.mem_append.1 hy with hy | hy
        · exact List.mem_append_left _ hy
        · exact List.mem_append_right _ (List.mem_cons_of_mem _ hy)
      · exact List.mem_append_right _ (by rw [hy]; exact List.mem_cons_self ..)
theorem withL_up (l : List Bs) (x : Bs) (h : Up l) : Up (withL l x) := by
  unfold withL
  split
  · exact h
  · rename_i hne
    have ht : ∀ a ∈ l.take (placeL l x), bytesLess a x = true := by
      intro a ha
      obtain ⟨k, hk, e⟩ := List.getElem_of_mem ha
      have hk' : k < placeL l x := by rw [List.length_take] at hk; omega
      have hkl : k < l.length := by rw [List.length_take] at hk; omega
      have := placeL_lt l x k hk'
      rw [List.getElem_take] at e
      rw [List.getD, List.getElem?_eq_getElem hkl, Option.getD_some, e] at this
      exact this
    have hd : ∀ a ∈ l.drop (placeL l x), bytesLess x a = true := by
      intro a ha
      have hlt : placeL l x < l.length := by
        rcases Nat.lt_or_ge (placeL l x) l.length with h0 | h0
        · exact h0
        · rw [List.drop_eq_nil_of_le h0] at ha; cases ha
      have h0 := placeL_at l x hlt
      have hne' : l.getD (placeL l x) [] ≠ x := fun e => hne ⟨hlt, e⟩
      have hfirst : bytesLess x (l.getD (placeL l x) []) = true := by
        rcases less_total _ _ hne' with h1 | h1
        · rw [h0] at h1; cases h1
        · exact h1
      rw [List.drop_eq_getElem_cons hlt] at ha
      have e : l.getD (placeL l x) [] = l[placeL l x] := by rw [List.getD, List.getElem?_eq_getElem hlt]; rfl
      rw [e] at hfirst
      rcases List.mem_cons.1 ha with ha | ha
      · rw [ha]; exact hfirst
      · have hp : Up (l.drop (placeL l x)) := List.Pairwise.sublist (List.drop_sublist _ _) h
        rw [List.drop_eq_getElem_cons hlt] at hp
        exact less_trans _ _ _ hfirst ((List.pairwise_cons.1 hp).1 a ha)
    refine List.pairwise_append.2 ⟨List.Pairwise.sublist (List.take_sublist _ _) h, List.pairwise_cons.2 ⟨hd, List.Pairwise.sublist (List.drop_sublist _ _) h⟩, ?_⟩
    intro a ha b hb
    rcases List.mem_cons.1 hb with hb | hb
    · rw [hb]; exact ht a ha
    · exact less_trans _ _ _ (ht a ha) (hd b hb)
def ofK (l : List Bs) : Nat → List Bs
  | 0 => []
  | k + 1 => if rightB (l.getD k []) then withL (ofK l k) (l.getD k []) else ofK l k
def ofL (l : List Bs) : List Bs := ofK l l.length
theorem ofK_up (l : List Bs) : ∀ k, Up (ofK l k)
  | 0 => List.Pairwise.nil
  | k + 1 => by
    rw [ofK]
    split
    · exact withL_up _ _ (ofK_up l k)
    · exact ofK_up l k
theorem ofK_mem (l : List Bs) (x : Bs) : ∀ k, k ≤ l.length → (x ∈ ofK l k ↔ x ∈ l.take k ∧ rightB x = true)
  | 0, _ => by simp [ofK]
  | k + 1, h => by
    have ih := ofK_mem l x k (by omega)
    have e : l.getD k [] = l[k] := by rw [List.getD, List.getElem?_eq_getElem (by omega)]; rfl
    rw [ofK, List.take_succ_eq_append_getElem (by omega), e]
    split
    · rename_i hr
      rw [withL_mem, ih]
      simp only [List.mem_append, List.mem_singleton]
      constructor
      · rintro (⟨h1, h2⟩ | h1)
        · exact ⟨.inl h1, h2⟩
        · exact ⟨.inr h1, by rw [h1]; exact hr⟩
      · rintro ⟨h1 | h1, h2⟩
        · exact .inl ⟨h1, h2⟩
        · exact .inr h1
    · rename_i hr
      rw [ih]
      simp only [List.mem_append, List.mem_singleton]
      constructor
      · rintro ⟨h1, h2⟩; exact ⟨.inl h1, h2⟩
      · rintro ⟨h1 | h1, h2⟩
        · exact ⟨h1, h2⟩
        · rw [h1] at h2; exact absurd h2 hr
theorem ofL_up (l : List Bs) : Up (ofL l) := ofK_up l _
theorem ofL_mem (l : List Bs) (x : Bs) : x ∈ ofL l ↔ x ∈ l ∧ rightB x = true := by
  unfold ofL
  rw [ofK_mem l x _ (Nat.le_refl _), List.take_of_length_le (Nat.le_refl _)]
def hasL (l : List Bs) (x : Bs) : Bool := l.any fun a => a == x
theorem hasL_iff (l : List Bs) (x : Bs) : hasL l x = true ↔ x ∈ l := by simp [hasL]
def lessL (a b : List Bs) : List Bs := ofL (a.filter fun x => !hasL b x)
theorem lessL_mem (a b : List Bs) (x : Bs) : x ∈ lessL a b ↔ (x ∈ a ∧ ¬ x ∈ b) ∧ rightB x = true := by
  unfold lessL
  rw [ofL_mem, List.mem_filter]
  have : (!hasL b x) = true ↔ ¬ x ∈ b := by rw [← hasL_iff]; simp
  rw [this]
def risesK (l : List Bs) : Nat → Bool
  | 0 => true
  | k + 1 => risesK l k && (rightB (l.getD k []) && (k == 0 || bytesLess (l.getD (k - 1) []) (l.getD k [])))
def risesL (l : List Bs) : Bool := risesK l l.length
theorem risesK_all (l : List Bs) : ∀ k, k ≤ l.length → (risesK l k = true ↔ (∀ x ∈ l.take k, rightB x = true) ∧ Up (l.take k))
  | 0, _ => by simp [risesK]
  | k + 1, h => by
    have ih := risesK_all l k (by omega)
    have e : l.getD k [] = l[k] := by rw [List.getD, List.getElem?_eq_getElem (by omega)]; rfl
    rw [risesK, Bool.and_eq_true, Bool.and_eq_true, ih, List.take_succ_eq_append_getElem (by omega), e]
    rw [show Up (l.take k ++ [l[k]]) ↔ Up (l.take k) ∧ ∀ a ∈ l.take k, bytesLess a l[k] = true by
      unfold Up; rw [List.pairwise_append]; simp]
    constructor
    · rintro ⟨⟨h1, h2⟩, h3, h4⟩
      refine ⟨fun x hx => ?_, h2, fun a ha => ?_⟩
      · rcases List.mem_append.1 hx with hx | hx
        · exact h1 x hx
        · rw [List.mem_singleton] at hx; rw [hx]; exact h3
      · rcases Nat.eq_zero_or_pos k with hk | hk
        · subst hk; simp at ha
        · have h5 : bytesLess (l.getD (k - 1) []) l[k] = true := by
            have : (k == 0) = false := by simp; omega
            rw [this, Bool.false_or] at h4; exact h4
          have el : l.getD (k - 1) [] = l[k - 1] := by rw [List.getD, List.getElem?_eq_getElem (by omega)]; rfl
          rw [el] at h5
          have et : l.take k = l.take (k - 1) ++ [l[k - 1]] := by
            have := List.take_succ_eq_append_getElem (i := k - 1) (l := l) (by omega)
            rwa [show k - 1 + 1 = k by omega] at this
          rw [et] at ha h2
          rcases List.mem_append.1 ha with ha | ha
          · exact less_trans _ _ _ ((List.pairwise_append.1 h2).2.2 a ha _ (List.mem_singleton.2 rfl)) h5
          · rw [List.mem_singleton] at ha; rw [ha]; exact h5
    · rintro ⟨h1, h2, h3⟩
      refine ⟨⟨fun x hx => h1 x (List.mem_append_left _ hx), h2⟩, h1 _ (List.mem_append_right _ (List.mem_singleton.2 rfl)), ?_⟩
      rcases Nat.eq_zero_or_pos k with hk | hk
      · subst hk; rfl
      · have el : l.getD (k - 1) [] = l[k - 1] := by rw [List.getD, List.getElem?_eq_getElem (by omega)]; rfl
        rw [el]
        have hm : l[k - 1] ∈ l.take k := by
          rw [List.mem_take_iff_getElem]
          exact ⟨k - 1, by omega, rfl⟩
        simp [h3 _ hm]
theorem risesL_iff (l : List Bs) : risesL l = true ↔ (∀ x ∈ l, rightB x = true) ∧ Up l := by
  unfold risesL
  rw [risesK_all l _ (Nat.le_refl _), List.take_of_length_le (Nat.le_refl _)]
end
section
open Go.RowKit
abbrev Only (w w' : World) (g : Nat) : Prop := w.grownBy w' (some g)
theorem only_trans {a b c : World} {g : Nat} (h : Only a b g) (k : Only b c g) : Only a c g :=
  ⟨k.os.trans h.os, k.tape.trans h.tape, k.output.trans h.output, Nat.le_trans h.size k.size, fun i hi hn => (k.block i (Nat.lt_of_lt_of_le hi h.size) hn).trans (h.block i hi hn)⟩
theorem only_refl (w : World) (g : Nat) : Only w w g := ⟨rfl, rfl, rfl, Nat.le_refl _, fun _ _ _ => rfl⟩
theorem only_set (w : World) (g i : Nat) (u : Value) : Only w (w.setCell ⟨g, i, none⟩ u) g :=
  ⟨rfl, rfl, rfl, by simp [World.setCell], fun k _ hk => heap_setCell_other w ⟨g, i, none⟩ k u (fun e => hk (by simp [e]))⟩
theorem only_below {a w : World} (h : Below a.heap.size a w) (g : Nat) : Only a w g := ⟨h.os, h.tape, h.output, h.size, fun i hi _ => h.block i hi⟩
theorem below_only {B g : Nat} {a w w' : World} (h : Below B a w) (k : Only w w' g) (hg : B ≤ g) (hB : B ≤ w.heap.size) : Below B a w' :=
  h.trans ⟨k.os, k.tape, k.output, k.size, fun i hi => k.block i (by omega) (by simp; omega)⟩
theorem Reads.only {w w' : World} {B size n g : Nat} {A : Option Addr} {xs : List Value} (h : Reads w B size A n xs) (hl : B ≤ w.heap.size) (ho : Only w w' g) (ha : ∀ ad, A = some ad → ad.block ≠ g) : Reads w' B size A n xs := by
  refine ⟨h.1, fun h0 => ?_⟩
  obtain ⟨ad, e, hb, hc⟩ := h.2 h0
  refine ⟨ad, e, hb, fun j u hu => ?_⟩
  have := ho.block ad.block (by omega) (by simp; exact ha ad e)
  have h1 := hc j u hu
  have eb : (ad.add j).block = ad.block := block_of_add _ _
  unfold World.cell? at h1 ⊢
  rw [eb, this]
  rw [eb] at h1
  exact h1
theorem Blk.only {w w' : World} {g k : Nat} {t : TypeId} {cs : Array Value} (h : Blk w g t cs) (ho : Only w w' k) (hg : g ≠ k) : Blk w' g t cs := by
  have := ho.block g h.lt (by simp; omega)
  unfold Blk at h ⊢
  rw [this]; exact h
end
section
open Go.RowKit
section
variable {P : Program} {Q : Exit → Act → World → Prop} {a : Act}
theorem wpAny_tail {md : Region.Mode} {l : List Oper} {fuel : Nat} {listed : Array Bool} {w : World} (n : Nat) (hf : fuel = (l.drop n).length)
    (hB : Region.seqB md l.toArray (l.drop n).length n listed = true) (h : wpList P l.toArray Q (l.drop n) a w) : wpAny P md l.toArray Q fuel listed a w := by
  subst hf
  exact wpAny_of_seq (l.drop n) n listed a w (fun j => by simp [List.getElem?_drop]) hB h
end
end
end Go.Proofs.Ytbeihiokjhfepaa
