/- Lemmas under the proofs of this place: Only, SectPlain, Guard. No statement is proved here. -/
import Derived.Test.YtpedgkghfehkjaaBu00
import Derived.StillTail
section
set_option linter.unusedVariables false
namespace Go.Proofs.Ytpedgkghfehkjaa
open Go.RowKit
abbrev Only (w w' : World) (g : Nat) : Prop := w.grownBy w' (some g)
theorem only_trans {a b c : World} {g : Nat} (h : Only a b g) (k : Only b c g) : Only a c g :=
  ⟨k.os.trans h.os, k.tape.trans h.tape, k.output.trans h.output, Nat.le_trans h.size k.size, fun i hi hn => (k.block i (Nat.lt_of_lt_of_le hi h.size) hn).trans (h.block i hi hn)⟩
theorem only_refl (w : World) (g : Nat) : Only w w g := ⟨rfl, rfl, rfl, Nat.le_refl _, fun _ _ _ => rfl⟩
theorem only_set (w : World) (g i : Nat) (u : Value) : Only w (w.setCell ⟨g, i, none⟩ u) g :=
  ⟨rfl, rfl, rfl, by simp [World.setCell], fun k _ hk => heap_setCell_other w ⟨g, i, none⟩ k u (fun e => hk (by simp [e]))⟩
theorem only_below {a w : World} (h : Below a.heap.size a w) (g : Nat) : Only a w g := ⟨h.os, h.tape, h.output, h.size, fun i hi _ => h.block i hi⟩
theorem below_only {B g : Nat} {a w w' : World} (h : Below B a w) (k : Only w w' g) (hg : B ≤ g) (hB : B ≤ w.heap.size) : Below B a w' :=
  h.trans ⟨k.os, k.tape, k.output, k.size, fun i hi => k.block i (by omega) (by simp; omega)⟩
theorem only_alloc {a w : World} {g : Nat} (h : Only a w g) (o : Obj) : Only a (w.alloc o) g :=
  ⟨h.os, h.tape, h.output, Nat.le_trans h.size (by simp), fun i hi hne => (Below.heap_alloc w o i (Nat.lt_of_lt_of_le hi h.size)).trans (h.block i hi hne)⟩
theorem below_drew {B : Nat} {w w' : World} (h : Below B w.drew w') : Below B w w' := ⟨h.os, h.tape, h.output, h.size, h.block⟩
theorem Reads.only {w w' : World} {B size n g : Nat} {A : Option Addr} {xs : List Value} (h : Reads w B size A n xs) (hl : B ≤ w.heap.size) (ho : Only w w' g) (ha : ∀ ad, A = some ad → ad.block ≠ g) : Reads w' B size A n xs := by
  refine ⟨h.1, fun h0 => ?_⟩
  obtain ⟨ad, e, hb, hc⟩ := h.2 h0
  refine ⟨ad, e, hb, fun j u hu => ?_⟩
  have := ho.block ad.block (by omega) (by simp; exact ha ad e)
  have h1 := hc j u hu
  have eb : (ad.add j).block = ad.block := block_of_add _ _
  unfold World.cell? at h1 ⊢
  rw [eb, this]
  rw [eb] at h1
  exact h1
theorem Blk.only {w w' : World} {g k : Nat} {t : TypeId} {cs : Array Value} (h : Blk w g t cs) (ho : Only w w' k) (hg : g ≠ k) : Blk w' g t cs := by
  have := ho.block g h.lt (by simp; omega)
  unfold Blk at h ⊢
  rw [this]; exact h
end Go.Proofs.Ytpedgkghfehkjaa
end
section
set_option linter.unusedVariables false
namespace Go.Proofs.Ytpedgkghfehkjaa
structure Sd where
  kind : Int
  epoch : Int
  number : Int
  left : Int
  data : List UInt8
instance : DecidableEq Sd := fun a b =>
  if h : a.kind = b.kind ∧ a.epoch = b.epoch ∧ a.number = b.number ∧ a.left = b.left ∧ a.data = b.data then
    .isTrue (by obtain ⟨h1, h2, h3, h4, h5⟩ := h; cases a; cases b; simp only at h1 h2 h3 h4 h5; subst h1 h2 h3 h4 h5; rfl)
  else .isFalse (fun e => h (by subst e; exact ⟨rfl, rfl, rfl, rfl, rfl⟩))
def Sd.zero : Sd := ⟨0, 0, 0, 0, []⟩
def Sd.may (s : Sd) : Bool := decide (1 ≤ s.kind) && (decide (s.kind ≤ 255) && (decide (0 ≤ s.epoch) && (decide (s.epoch ≤ 2147483647) && (decide (0 ≤ s.number) && (decide (s.number ≤ 2147483647) && (decide (0 ≤ s.left) && (decide (s.left ≤ 65535) && decide (s.data.length ≤ 48))))))))
theorem Sd.may_iff (s : Sd) : s.may = true ↔ 1 ≤ s.kind ∧ s.kind ≤ 255 ∧ 0 ≤ s.epoch ∧ s.epoch ≤ 2147483647 ∧ 0 ≤ s.number ∧ s.number ≤ 2147483647 ∧ 0 ≤ s.left ∧ s.left ≤ 65535 ∧ s.data.length ≤ 48 := by
  unfold Sd.may
  simp only [Bool.and_eq_true, decide_eq_true_eq]
def Sd.head (s : Sd) : List UInt8 := UInt8.ofNat s.kind.toNat :: UInt8.ofNat s.data.length :: (fixL 2 s.left.toNat ++ (fixL 4 s.epoch.toNat ++ fixL 4 s.number.toNat))
def Sd.body (s : Sd) : List UInt8 := s.head ++ (s.data ++ List.replicate (48 - s.data.length) 0)
def Sd.bytes (s : Sd) : List UInt8 := sealL s.body
theorem Sd.head_length (s : Sd) : s.head.length = 12 := by
  unfold Sd.head
  simp [fixL_length]
theorem Sd.body_length (s : Sd) (h : s.data.length ≤ 48) : s.body.length = 60 := by
  unfold Sd.body
  rw [List.length_append, List.length_append, List.length_replicate, Sd.head_length]
  omega
theorem Sd.bytes_length (s : Sd) (h : s.data.length ≤ 48) : s.bytes.length = 64 := by
  unfold Sd.bytes
  rw [sealL_length, Sd.body_length s h]
theorem fixL_two (n : Nat) : ∃ a b, fixL 2 n = [a, b] := ⟨_, _, rfl⟩
theorem fixL_four (n : Nat) : ∃ a b c d, fixL 4 n = [a, b, c, d] := ⟨_, _, _, _, rfl⟩
theorem fix_unfix6 : ∀ (l : List UInt8), fixL l.length (unfixL l) = l
  | [] => rfl
  | x :: l => by
    have hx := x.toNat_lt
    show fixL (l.length + 1) (x.toNat + 256 * unfixL l) = x :: l
    have h1 : (x.toNat + 256 * unfixL l) % 256 = x.toNat := by omega
    have h2 : (x.toNat + 256 * unfixL l) / 256 = unfixL l := by omega
    rw [fixL, h1, h2, fix_unfix6 l, ofNat_byte]
theorem openL_some {b c : List UInt8} (h : openL b = some c) : b = sealL c ∧ c.length + 4 = b.length := by
  unfold openL at h
  split at h
  · rename_i h1
    injection h with h
    subst h
    exact ⟨h1.2.symm, by rw [List.length_take]; omega⟩
  · cases h
theorem sealL_inj {a b : List UInt8} (h : sealL a = sealL b) : a = b := by
  have h1 := congrArg openL h
  rw [open_seal, open_seal] at h1
  injection h1
def Sd.part (s : Sd) (t : List UInt8) (n i : Nat) : Sd := ⟨if i = 0 then s.kind else s.kind + 1, s.epoch, s.number + (i : Int), ((n - 1 - i : Nat) : Int), (t.drop (48 * i)).take 48⟩
end Go.Proofs.Ytpedgkghfehkjaa
end
section
set_option linter.unusedVariables false
namespace Go.Proofs.Ytpedgkghfehkjaa
open Go.RowKit
section
variable {P : Program} {Q : Exit → Act → World → Prop} {a : Act}
theorem wpList_wanted {ops : Array Oper} {o : Oper} {rest : List Oper} {w : World} (hw : Region.wanted o (yielded ops a.tmps) = true)
    (h : ∀ K : Act → World → Prop, (∀ a w, wpList P ops Q rest a w → K a w) → o.wp P a w K Q) : wpList P ops Q (o :: rest) a w :=
  wpList_step fun K hK => by rw [if_pos hw]; exact h K hK
theorem wpAny_tail {md : Region.Mode} {l : List Oper} {fuel : Nat} {listed : Array Bool} {w : World} (n : Nat) (hf : fuel = (l.drop n).length)
    (hB : Region.seqB md l.toArray (l.drop n).length n listed = true) (h : wpList P l.toArray Q (l.drop n) a w) : wpAny P md l.toArray Q fuel listed a w := by
  subst hf
  exact wpAny_of_seq (l.drop n) n listed a w (fun j => by simp [List.getElem?_drop]) hB h
end
end Go.Proofs.Ytpedgkghfehkjaa
end
