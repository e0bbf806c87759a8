/- Lemmas under the proofs of this place: ManPlain, IdsPlain, Only. No statement is proved here. -/
import Derived.Test.YtinphkflfdpaeaaDoorBu00
import GoSem.Op.String
set_option linter.unusedSimpArgs false
set_option linter.unusedVariables false
namespace Go.Proofs.YtinphkflfdpaeaaDoor
section
structure Pt where
  f : Int
  s : Int
  o : Int
deriving DecidableEq
instance : Inhabited Pt := ⟨⟨0, 0, 0⟩⟩
def Pt.z : Pt := ⟨0, 0, 0⟩
def Pt.ok (p : Pt) : Bool := decide (1 ≤ p.f) && decide (p.f ≤ 65535) && (decide (1 ≤ p.s) && decide (p.s ≤ 262144)) && (decide (1 ≤ p.o) && decide (p.o ≤ 2147483647))
def Pt.one (p : Pt) : List UInt8 := putL p.f.toNat ++ (putL p.s.toNat ++ putL p.o.toNat)
structure Mf where
  segs : List Pt
  snap : Pt
deriving DecidableEq
def Mf.zero : Mf := ⟨[], Pt.z⟩
def Mf.parts (m : Mf) : List Pt := if m.snap = Pt.z then m.segs else m.segs ++ [m.snap]
def Mf.check (m : Mf) : Int := if 8 < m.segs.length then 4 else if m.parts.all Pt.ok = false then 1 else if (m.parts.map Pt.f).Nodup then 0 else 7
theorem Mf.check_ok {m : Mf} (h : m.check = 0) : m.segs.length ≤ 8 ∧ (∀ p ∈ m.parts, p.ok = true) ∧ (m.parts.map Pt.f).Nodup := by
  unfold Mf.check at h
  split at h
  · cases h
  · split at h
    · cases h
    · split at h
      · rename_i h1 h2 h3
        exact ⟨by omega, List.all_eq_true.1 (by simpa using h2), h3⟩
      · cases h
def onesL : List Pt → List UInt8
  | [] => []
  | p :: l => p.one ++ onesL l
def Mf.tail (m : Mf) : List UInt8 := if m.snap = Pt.z then [0] else 1 :: m.snap.one
def Mf.own (m : Mf) : List UInt8 := [3, 109, 97, 110] ++ (UInt8.ofNat m.segs.length :: (onesL m.segs ++ m.tail))
def nextN (l : List UInt8) : Option (Nat × List UInt8) := (getL l).map fun x => (x.1, l.drop x.2)
theorem nextN_put (n : Nat) (rest : List UInt8) (h : n ≤ 2147483647) : nextN (putL n ++ rest) = some (n, rest) := by
  simp [nextN, getL_put n rest h]
end
section
open Go.Op
abbrev Bs := List UInt8
theorem less_nil_right (a : Bs) : bytesLess a [] = false := by cases a <;> rfl
theorem less_cons (a b : UInt8) (x y : Bs) : bytesLess (a :: x) (b :: y) = (decide (a < b) || (a == b && bytesLess x y)) := rfl
theorem less_irrefl : ∀ a : Bs, bytesLess a a = false
  | [] => rfl
  | a :: x => by
    rw [less_cons, less_irrefl x]
    have : ¬ a < a := by rw [UInt8.lt_iff_toNat_lt]; omega
    simp [this]
theorem less_trans : ∀ a b c : Bs, bytesLess a b = true → bytesLess b c = true → bytesLess a c = true
  | a, b, [], h1, h2 => by rw [less_nil_right] at h2; cases h2
  | a, [], c :: z, h1, h2 => by rw [less_nil_right] at h1; cases h1
  | [], b :: y, c :: z, h1, h2 => rfl
  | a :: x, b :: y, c :: z, h1, h2 => by
    rw [less_cons] at h1 h2 ⊢
    simp only [Bool.or_eq_true, decide_eq_true_eq, Bool.and_eq_true, beq_iff_eq] at h1 h2 ⊢
    rcases h1 with h1 | ⟨rfl, h1⟩
    · rcases h2 with h2 | ⟨rfl, h2⟩
      · left; rw [UInt8.lt_iff_toNat_lt] at *; omega
      · left; exact h1
    · rcases h2 with h2 | ⟨rfl, h2⟩
      · left; exact h2
      · right; exact ⟨rfl, less_trans x y z h1 h2⟩
theorem less_total : ∀ a b : Bs, a ≠ b → bytesLess a b = true ∨ bytesLess b a = true
  | [], [], h => absurd rfl h
  | [], b :: y, h => .inl rfl
  | a :: x, [], h => .inr rfl
  | a :: x, b :: y, h => by
    rw [less_cons, less_cons]
    simp only [Bool.or_eq_true, decide_eq_true_eq, Bool.and_eq_true, beq_iff_eq]
    by_cases e : a = b
    · subst e
      have : x ≠ y := fun e => h (by rw [e])
      rcases less_total x y this with h | h
      · exact .inl (.inr ⟨rfl, h⟩)
      · exact .inr (.inr ⟨rfl, h⟩)
    · have : a.toNat ≠ b.toNat := fun e2 => e (UInt8.toNat_inj.1 e2)
      by_cases hlt : a.toNat < b.toNat
      · exact .inl (.inl (UInt8.lt_iff_toNat_lt.2 hlt))
      · exact .inr (.inl (UInt8.lt_iff_toNat_lt.2 (by omega)))
theorem less_ne {a b : Bs} (h : bytesLess a b = true) : a ≠ b := fun e => by rw [e, less_irrefl] at h; cases h
theorem less_asymm {a b : Bs} (h : bytesLess a b = true) : bytesLess b a = false := by
  cases h2 : bytesLess b a with
  | false => rfl
  | true => have := less_trans a b a h h2; rw [less_irrefl] at this; cases this
abbrev Up (l : List Bs) : Prop := l.Pairwise fun a b => bytesLess a b = true
def rightB (a : Bs) : Bool := a.length == 32
def risesK (l : List Bs) : Nat → Bool
  | 0 => true
  | k + 1 => risesK l k && (rightB (l.getD k []) && (k == 0 || bytesLess (l.getD (k - 1) []) (l.getD k [])))
def risesL (l : List Bs) : Bool := risesK l l.length
theorem risesK_all (l : List Bs) : ∀ k, k ≤ l.length → (risesK l k = true ↔ (∀ x ∈ l.take k, rightB x = true) ∧ Up (l.take k))
  | 0, _ => by simp [risesK]
  | k + 1, h => by
    have ih := risesK_all l k (by omega)
    have e : l.getD k [] = l[k] := by rw [List.getD, List.getElem?_eq_getElem (by omega)]; rfl
    rw [risesK, Bool.and_eq_true, Bool.and_eq_true, ih, List.take_succ_eq_append_getElem (by omega), e]
    rw [show Up (l.take k ++ [l[k]]) ↔ Up (l.take k) ∧ ∀ a ∈ l.take k, bytesLess a l[k] = true by
      unfold Up; rw [List.pairwise_append]; simp]
    constructor
    · rintro ⟨⟨h1, h2⟩, h3, h4⟩
      refine ⟨fun x hx => ?_, h2, fun a ha => ?_⟩
      · rcases List.mem_append.1 hx with hx | hx
        · exact h1 x hx
        · rw [List.mem_singleton] at hx; rw [hx]; exact h3
      · rcases Nat.eq_zero_or_pos k with hk | hk
        · subst hk; simp at ha
        · have h5 : bytesLess (l.getD (k - 1) []) l[k] = true := by
            have : (k == 0) = false := by simp; omega
            rw [this, Bool.false_or] at h4; exact h4
          have el : l.getD (k - 1) [] = l[k - 1] := by rw [List.getD, List.getElem?_eq_getElem (by omega)]; rfl
          rw [el] at h5
          have et : l.take k = l.take (k - 1) ++ [l[k - 1]] := by
            have := List.take_succ_eq_append_getElem (i := k - 1) (l := l) (by omega)
            rwa [show k - 1 + 1 = k by omega] at this
          rw [et] at ha h2
          rcases List.mem_append.1 ha with ha | ha
          · exact less_trans _ _ _ ((List.pairwise_append.1 h2).2.2 a ha _ (List.mem_singleton.2 rfl)) h5
          · rw [List.mem_singleton] at ha; rw [ha]; exact h5
    · rintro ⟨h1, h2, h3⟩
      refine ⟨⟨fun x hx => h1 x (List.mem_append_left _ hx), h2⟩, h1 _ (List.mem_append_right _ (List.mem_singleton.2 rfl)), ?_⟩
      rcases Nat.eq_zero_or_pos k with hk | hk
      · subst hk; rfl
      · have el : l.getD (k - 1) [] = l[k - 1] := by rw [List.getD, List.getElem?_eq_getElem (by omega)]; rfl
        rw [el]
        have hm : l[k - 1] ∈ l.take k := by
          rw [List.mem_take_iff_getElem]
          exact ⟨k - 1, by omega, rfl⟩
        simp [h3 _ hm]
theorem risesL_iff (l : List Bs) : risesL l = true ↔ (∀ x ∈ l, rightB x = true) ∧ Up l := by
  unfold risesL
  rw [risesK_all l _ (Nat.le_refl _), List.take_of_length_le (Nat.le_refl _)]
end
section
open Go.RowKit
abbrev Only (w w' : World) (g : Nat) : Prop := w.grownBy w' (some g)
theorem only_trans {a b c : World} {g : Nat} (h : Only a b g) (k : Only b c g) : Only a c g :=
  ⟨k.os.trans h.os, k.tape.trans h.tape, k.output.trans h.output, Nat.le_trans h.size k.size, fun i hi hn => (k.block i (Nat.lt_of_lt_of_le hi h.size) hn).trans (h.block i hi hn)⟩
theorem only_refl (w : World) (g : Nat) : Only w w g := ⟨rfl, rfl, rfl, Nat.le_refl _, fun _ _ _ => rfl⟩
theorem only_set (w : World) (g i : Nat) (u : Value) : Only w (w.setCell ⟨g, i, none⟩ u) g :=
  ⟨rfl, rfl, rfl, by simp [World.setCell], fun k _ hk => heap_setCell_other w ⟨g, i, none⟩ k u (fun e => hk (by simp [e]))⟩
theorem only_below {a w : World} (h : Below a.heap.size a w) (g : Nat) : Only a w g := ⟨h.os, h.tape, h.output, h.size, fun i hi _ => h.block i hi⟩
theorem below_only {B g : Nat} {a w w' : World} (h : Below B a w) (k : Only w w' g) (hg : B ≤ g) (hB : B ≤ w.heap.size) : Below B a w' :=
  h.trans ⟨k.os, k.tape, k.output, k.size, fun i hi => k.block i (by omega) (by simp; omega)⟩
theorem only_drew {g : Nat} {w w' : World} (h : Only w.drew w' g) : Only w w' g := ⟨h.os, h.tape, h.output, h.size, h.block⟩
theorem Reads.only {w w' : World} {B size n g : Nat} {A : Option Addr} {xs : List Value} (h : Reads w B size A n xs) (hl : B ≤ w.heap.size) (ho : Only w w' g) (ha : ∀ ad, A = some ad → ad.block ≠ g) : Reads w' B size A n xs := by
  refine ⟨h.1, fun h0 => ?_⟩
  obtain ⟨ad, e, hb, hc⟩ := h.2 h0
  refine ⟨ad, e, hb, fun j u hu => ?_⟩
  have := ho.block ad.block (by omega) (by simp; exact ha ad e)
  have h1 := hc j u hu
  have eb : (ad.add j).block = ad.block := block_of_add _ _
  unfold World.cell? at h1 ⊢
  rw [eb, this]
  rw [eb] at h1
  exact h1
theorem Blk.only {w w' : World} {g k : Nat} {t : TypeId} {cs : Array Value} (h : Blk w g t cs) (ho : Only w w' k) (hg : g ≠ k) : Blk w' g t cs := by
  have := ho.block g h.lt (by simp; omega)
  unfold Blk at h ⊢
  rw [this]; exact h
end
end Go.Proofs.YtinphkflfdpaeaaDoor
