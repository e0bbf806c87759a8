/- Lemmas under the proofs of this place: ManPlain, Only, Guard. No statement is proved here. -/
import Derived.Test.YtnmcohdlogepdaaBu00
import Derived.StillTail
section
set_option linter.unusedVariables false
set_option linter.unusedSimpArgs false
namespace Go.Proofs.Ytnmcohdlogepdaa
structure Pt where
  f : Int
  s : Int
  o : Int
deriving DecidableEq
instance : Inhabited Pt := ⟨⟨0, 0, 0⟩⟩
def Pt.z : Pt := ⟨0, 0, 0⟩
def Pt.ok (p : Pt) : Bool := decide (1 ≤ p.f) && decide (p.f ≤ 65535) && (decide (1 ≤ p.s) && decide (p.s ≤ 262144)) && (decide (1 ≤ p.o) && decide (p.o ≤ 2147483647))
theorem Pt.ok_iff {p : Pt} : p.ok = true ↔ ((1 ≤ p.f ∧ p.f ≤ 65535) ∧ (1 ≤ p.s ∧ p.s ≤ 262144)) ∧ (1 ≤ p.o ∧ p.o ≤ 2147483647) := by
  simp [Pt.ok]
def Pt.one (p : Pt) : List UInt8 := putL p.f.toNat ++ (putL p.s.toNat ++ putL p.o.toNat)
theorem Pt.one_len {p : Pt} (h : p.ok = true) : p.one.length ≤ 11 := by
  obtain ⟨⟨⟨h1, h2⟩, h3, h4⟩, h5, h6⟩ := Pt.ok_iff.1 h
  have a := putL_len_le 2 p.f.toNat (by omega)
  have b := putL_len_le 2 p.s.toNat (by omega)
  have c := putL_len5 p.o.toNat (by omega)
  simp only [Pt.one, List.length_append]
  omega
structure Mf where
  segs : List Pt
  snap : Pt
deriving DecidableEq
def Mf.zero : Mf := ⟨[], Pt.z⟩
def Mf.parts (m : Mf) : List Pt := if m.snap = Pt.z then m.segs else m.segs ++ [m.snap]
def Mf.check (m : Mf) : Int := if 8 < m.segs.length then 4 else if m.parts.all Pt.ok = false then 1 else if (m.parts.map Pt.f).Nodup then 0 else 7
theorem Mf.check_ok {m : Mf} (h : m.check = 0) : m.segs.length ≤ 8 ∧ (∀ p ∈ m.parts, p.ok = true) ∧ (m.parts.map Pt.f).Nodup := by
  unfold Mf.check at h
  split at h
  · cases h
  · split at h
    · cases h
    · split at h
      · rename_i h1 h2 h3
        exact ⟨by omega, List.all_eq_true.1 (by simpa using h2), h3⟩
      · cases h
theorem Mf.segs_parts {m : Mf} {p : Pt} (h : p ∈ m.segs) : p ∈ m.parts := by
  unfold Mf.parts
  split
  · exact h
  · exact List.mem_append_left _ h
theorem Mf.snap_parts {m : Mf} (h : m.snap ≠ Pt.z) : m.snap ∈ m.parts := by
  unfold Mf.parts
  rw [if_neg h]
  simp
def onesL : List Pt → List UInt8
  | [] => []
  | p :: l => p.one ++ onesL l
theorem onesL_append (a b : List Pt) : onesL (a ++ b) = onesL a ++ onesL b := by
  induction a with
  | nil => rfl
  | cons p l ih => simp [onesL, ih]
theorem onesL_len : ∀ (l : List Pt), (∀ p ∈ l, p.ok = true) → (onesL l).length ≤ 11 * l.length
  | [], _ => by simp [onesL]
  | p :: l, h => by
    have h1 := Pt.one_len (h p (by simp))
    have h2 := onesL_len l fun q hq => h q (by simp [hq])
    simp only [onesL, List.length_append, List.length_cons]
    omega
def Mf.tail (m : Mf) : List UInt8 := if m.snap = Pt.z then [0] else 1 :: m.snap.one
def Mf.own (m : Mf) : List UInt8 := [3, 109, 97, 110] ++ (UInt8.ofNat m.segs.length :: (onesL m.segs ++ m.tail))
def nextN (l : List UInt8) : Option (Nat × List UInt8) := (getL l).map fun x => (x.1, l.drop x.2)
theorem nextN_put (n : Nat) (rest : List UInt8) (h : n ≤ 2147483647) : nextN (putL n ++ rest) = some (n, rest) := by
  simp [nextN, getL_put n rest h]
theorem nextN_some {l r : List UInt8} {n : Nat} (h : nextN l = some (n, r)) : n ≤ 2147483647 ∧ l = putL n ++ r := by
  unfold nextN at h
  cases hg : getL l with
  | none => rw [hg] at h; cases h
  | some x =>
    obtain ⟨a, k⟩ := x
    rw [hg] at h
    simp only [Option.map_some, Option.some.injEq, Prod.mk.injEq] at h
    obtain ⟨rfl, rfl⟩ := h
    obtain ⟨h1, h2, h3, h4⟩ := getL_some l a k hg
    exact ⟨h1, by rw [h4]; exact (List.take_append_drop k l).symm⟩
def nextP (l : List UInt8) : Option (Pt × List UInt8) :=
  match nextN l with
  | none => none
  | some (a, l1) => match nextN l1 with
    | none => none
    | some (b, l2) => match nextN l2 with
      | none => none
      | some (c, l3) => some (⟨a, b, c⟩, l3)
theorem nextP_put {p : Pt} (h : p.ok = true) (rest : List UInt8) : nextP (p.one ++ rest) = some (p, rest) := by
  obtain ⟨⟨⟨h1, h2⟩, h3, h4⟩, h5, h6⟩ := Pt.ok_iff.1 h
  have e : p.one ++ rest = putL p.f.toNat ++ (putL p.s.toNat ++ (putL p.o.toNat ++ rest)) := by simp [Pt.one]
  unfold nextP
  rw [e, nextN_put _ _ (by omega)]
  simp only []
  rw [nextN_put _ _ (by omega)]
  simp only []
  rw [nextN_put _ _ (by omega)]
  simp only []
  rw [Int.toNat_of_nonneg (by omega), Int.toNat_of_nonneg (by omega), Int.toNat_of_nonneg (by omega)]
def nextPs : Nat → List UInt8 → Option (List Pt × List UInt8)
  | 0, l => some ([], l)
  | n + 1, l => match nextP l with
    | none => none
    | some (p, r) => (nextPs n r).map fun x => (p :: x.1, x.2)
theorem nextPs_put : ∀ (l : List Pt) (rest : List UInt8), (∀ p ∈ l, p.ok = true) → nextPs l.length (onesL l ++ rest) = some (l, rest)
  | [], _, _ => rfl
  | p :: l, rest, h => by
    have e : onesL (p :: l) ++ rest = p.one ++ (onesL l ++ rest) := by simp [onesL]
    rw [e]
    simp only [List.length_cons, nextPs]
    rw [nextP_put (h p (by simp))]
    simp only []
    rw [nextPs_put l rest fun q hq => h q (by simp [hq])]
    rfl
def Mf.tells (l : List UInt8) : Option Mf :=
  match nextN l with
  | none => none
  | some (n, l1) => match nextPs (min n 9) l1 with
    | none => none
    | some (s, l2) => match nextN l2 with
      | none => none
      | some (k, l3) => if k = 1 then (nextP l3).map fun x => ⟨s, x.1⟩ else some ⟨s, Pt.z⟩
theorem putL_ofNat (n : Nat) (h : n < 128) (l : List UInt8) : UInt8.ofNat n :: l = putL n ++ l := by rw [putL_small n h]; rfl
theorem Mf.tells_own {m : Mf} (h : m.check = 0) : Mf.tells (UInt8.ofNat m.segs.length :: (onesL m.segs ++ m.tail)) = some m := by
  obtain ⟨h1, h2, _⟩ := Mf.check_ok h
  unfold Mf.tells
  rw [putL_ofNat _ (by omega), nextN_put _ _ (by omega)]
  simp only []
  rw [Nat.min_eq_left (by omega), nextPs_put _ _ fun p hp => h2 p (Mf.segs_parts hp)]
  simp only []
  unfold Mf.tail
  by_cases hs : m.snap = Pt.z
  · rw [if_pos hs]
    have e : ([0] : List UInt8) = putL 0 ++ [] := by rw [putL_small 0 (by omega)]; rfl
    rw [e, nextN_put _ _ (by omega)]
    simp only []
    rw [if_neg (by decide), ← hs]
  · rw [if_neg hs]
    have e : (1 : UInt8) :: m.snap.one = putL 1 ++ (m.snap.one ++ []) := by rw [putL_small 1 (by omega)]; simp
    rw [e, nextN_put _ _ (by omega)]
    simp only []
    rw [if_pos trivial, nextP_put (h2 _ (Mf.snap_parts hs))]
    rfl
end Go.Proofs.Ytnmcohdlogepdaa
end
section
set_option linter.unusedVariables false
namespace Go.Proofs.Ytnmcohdlogepdaa
open Go.RowKit
abbrev Only (w w' : World) (g : Nat) : Prop := w.grownBy w' (some g)
theorem only_trans {a b c : World} {g : Nat} (h : Only a b g) (k : Only b c g) : Only a c g :=
  ⟨k.os.trans h.os, k.tape.trans h.tape, k.output.trans h.output, Nat.le_trans h.size k.size, fun i hi hn => (k.block i (Nat.lt_of_lt_of_le hi h.size) hn).trans (h.block i hi hn)⟩
theorem only_refl (w : World) (g : Nat) : Only w w g := ⟨rfl, rfl, rfl, Nat.le_refl _, fun _ _ _ => rfl⟩
theorem only_set (w : World) (g i : Nat) (u : Value) : Only w (w.setCell ⟨g, i, none⟩ u) g :=
  ⟨rfl, rfl, rfl, by simp [World.setCell], fun k _ hk => heap_setCell_other w ⟨g, i, none⟩ k u (fun e => hk (by simp [e]))⟩
theorem only_below {a w : World} (h : Below a.heap.size a w) (g : Nat) : Only a w g := ⟨h.os, h.tape, h.output, h.size, fun i hi _ => h.block i hi⟩
theorem below_only {B g : Nat} {a w w' : World} (h : Below B a w) (k : Only w w' g) (hg : B ≤ g) (hB : B ≤ w.heap.size) : Below B a w' :=
  h.trans ⟨k.os, k.tape, k.output, k.size, fun i hi => k.block i (by omega) (by simp; omega)⟩
theorem only_alloc {a w : World} {g : Nat} (h : Only a w g) (o : Obj) : Only a (w.alloc o) g :=
  ⟨h.os, h.tape, h.output, Nat.le_trans h.size (by simp), fun i hi hne => (Below.heap_alloc w o i (Nat.lt_of_lt_of_le hi h.size)).trans (h.block i hi hne)⟩
theorem below_drew {B : Nat} {w w' : World} (h : Below B w.drew w') : Below B w w' := ⟨h.os, h.tape, h.output, h.size, h.block⟩
theorem Reads.only {w w' : World} {B size n g : Nat} {A : Option Addr} {xs : List Value} (h : Reads w B size A n xs) (hl : B ≤ w.heap.size) (ho : Only w w' g) (ha : ∀ ad, A = some ad → ad.block ≠ g) : Reads w' B size A n xs := by
  refine ⟨h.1, fun h0 => ?_⟩
  obtain ⟨ad, e, hb, hc⟩ := h.2 h0
  refine ⟨ad, e, hb, fun j u hu => ?_⟩
  have := ho.block ad.block (by omega) (by simp; exact ha ad e)
  have h1 := hc j u hu
  have eb : (ad.add j).block = ad.block := block_of_add _ _
  unfold World.cell? at h1 ⊢
  rw [eb, this]
  rw [eb] at h1
  exact h1
theorem Blk.only {w w' : World} {g k : Nat} {t : TypeId} {cs : Array Value} (h : Blk w g t cs) (ho : Only w w' k) (hg : g ≠ k) : Blk w' g t cs := by
  have := ho.block g h.lt (by simp; omega)
  unfold Blk at h ⊢
  rw [this]; exact h
end Go.Proofs.Ytnmcohdlogepdaa
end
section
set_option linter.unusedVariables false
namespace Go.Proofs.Ytnmcohdlogepdaa
open Go.RowKit
section
variable {P : Program} {Q : Exit → Act → World → Prop} {a : Act}
theorem wpAny_tail {md : Region.Mode} {l : List Oper} {fuel : Nat} {listed : Array Bool} {w : World} (n : Nat) (hf : fuel = (l.drop n).length)
    (hB : Region.seqB md l.toArray (l.drop n).length n listed = true) (h : wpList P l.toArray Q (l.drop n) a w) : wpAny P md l.toArray Q fuel listed a w := by
  subst hf
  exact wpAny_of_seq (l.drop n) n listed a w (fun j => by simp [List.getElem?_drop]) hB h
end
end Go.Proofs.Ytnmcohdlogepdaa
end
