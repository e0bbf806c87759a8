/- Lemmas under the proofs of this place: SectPlain, Only, Guard. No statement is proved here. -/
import Derived.Test.YtkockhggnbfahaaBu00
import Derived.StillTail
section
set_option linter.unusedVariables false
namespace Go.Proofs.Ytkockhggnbfahaa
structure Sd where
  kind : Int
  epoch : Int
  number : Int
  left : Int
  data : List UInt8
instance : DecidableEq Sd := fun a b =>
  if h : a.kind = b.kind ∧ a.epoch = b.epoch ∧ a.number = b.number ∧ a.left = b.left ∧ a.data = b.data then
    .isTrue (by obtain ⟨h1, h2, h3, h4, h5⟩ := h; cases a; cases b; simp only at h1 h2 h3 h4 h5; subst h1 h2 h3 h4 h5; rfl)
  else .isFalse (fun e => h (by subst e; exact ⟨rfl, rfl, rfl, rfl, rfl⟩))
def Sd.zero : Sd := ⟨0, 0, 0, 0, []⟩
def Sd.may (s : Sd) : Bool := decide (1 ≤ s.kind) && (decide (s.kind ≤ 255) && (decide (0 ≤ s.epoch) && (decide (s.epoch ≤ 2147483647) && (decide (0 ≤ s.number) && (decide (s.number ≤ 2147483647) && (decide (0 ≤ s.left) && (decide (s.left ≤ 65535) && decide (s.data.length ≤ 48))))))))
theorem Sd.may_iff (s : Sd) : s.may = true ↔ 1 ≤ s.kind ∧ s.kind ≤ 255 ∧ 0 ≤ s.epoch ∧ s.epoch ≤ 2147483647 ∧ 0 ≤ s.number ∧ s.number ≤ 2147483647 ∧ 0 ≤ s.left ∧ s.left ≤ 65535 ∧ s.data.length ≤ 48 := by
  unfold Sd.may
  simp only [Bool.and_eq_true, decide_eq_true_eq]
def Sd.head (s : Sd) : List UInt8 := UInt8.ofNat s.kind.toNat :: UInt8.ofNat s.data.length :: (fixL 2 s.left.toNat ++ (fixL 4 s.epoch.toNat ++ fixL 4 s.number.toNat))
def Sd.body (s : Sd) : List UInt8 := s.head ++ (s.data ++ List.replicate (48 - s.data.length) 0)
def Sd.bytes (s : Sd) : List UInt8 := sealL s.body
theorem Sd.head_length (s : Sd) : s.head.length = 12 := by
  unfold Sd.head
  simp [fixL_length]
theorem Sd.body_length (s : Sd) (h : s.data.length ≤ 48) : s.body.length = 60 := by
  unfold Sd.body
  rw [List.length_append, List.length_append, List.length_replicate, Sd.head_length]
  omega
theorem Sd.bytes_length (s : Sd) (h : s.data.length ≤ 48) : s.bytes.length = 64 := by
  unfold Sd.bytes
  rw [sealL_length, Sd.body_length s h]
def secOf (c : List UInt8) : Sd := ⟨((c.getD 0 0).toNat : Int), (unfixL ((c.drop 4).take 4) : Int), (unfixL ((c.drop 8).take 4) : Int), (unfixL ((c.drop 2).take 2) : Int), (c.drop 12).take (c.getD 1 0).toNat⟩
theorem fixL_two (n : Nat) : ∃ a b, fixL 2 n = [a, b] := ⟨_, _, rfl⟩
theorem fixL_four (n : Nat) : ∃ a b c d, fixL 4 n = [a, b, c, d] := ⟨_, _, _, _, rfl⟩
theorem fix_unfix6 : ∀ (l : List UInt8), fixL l.length (unfixL l) = l
  | [] => rfl
  | x :: l => by
    have hx := x.toNat_lt
    show fixL (l.length + 1) (x.toNat + 256 * unfixL l) = x :: l
    have h1 : (x.toNat + 256 * unfixL l) % 256 = x.toNat := by omega
    have h2 : (x.toNat + 256 * unfixL l) / 256 = unfixL l := by omega
    rw [fixL, h1, h2, fix_unfix6 l, ofNat_byte]
theorem secOf_body (s : Sd) (h : s.may = true) : secOf s.body = s := by
  obtain ⟨h1, h2, h3, h4, h5, h6, h7, h8, h9⟩ := s.may_iff.1 h
  obtain ⟨k, e, n, l, D⟩ := s
  simp only at h1 h2 h3 h4 h5 h6 h7 h8 h9
  obtain ⟨x0, x1, hx⟩ := fixL_two l.toNat
  obtain ⟨y0, y1, y2, y3, hy⟩ := fixL_four e.toNat
  obtain ⟨z0, z1, z2, z3, hz⟩ := fixL_four n.toNat
  have ux := unfix_fix 2 l.toNat (by omega)
  have uy := unfix_fix 4 e.toNat (by omega)
  have uz := unfix_fix 4 n.toNat (by omega)
  rw [hx] at ux
  rw [hy] at uy
  rw [hz] at uz
  have hb : Sd.body ⟨k, e, n, l, D⟩ = UInt8.ofNat k.toNat :: UInt8.ofNat D.length :: x0 :: x1 :: y0 :: y1 :: y2 :: y3 :: z0 :: z1 :: z2 :: z3 :: (D ++ List.replicate (48 - D.length) 0) := by
    unfold Sd.body Sd.head
    simp only [hx, hy, hz]
    rfl
  rw [hb]
  unfold secOf
  have hk : (UInt8.ofNat k.toNat).toNat = k.toNat := ofNat_toNat _ (by omega)
  have hd : (UInt8.ofNat D.length).toNat = D.length := ofNat_toNat _ (by omega)
  simp only [List.getD_cons_zero, List.getD_cons_succ, List.drop_succ_cons, List.drop_zero, List.take_succ_cons, List.take_zero, hk, hd, ux, uy, uz, List.take_left']
  congr 1 <;> omega
structure Formed (c : List UInt8) : Prop where
  kind : 1 ≤ (c.getD 0 0).toNat
  len : (c.getD 1 0).toNat ≤ 48
  epoch : unfixL ((c.drop 4).take 4) ≤ 2147483647
  number : unfixL ((c.drop 8).take 4) ≤ 2147483647
  zero : c.drop (12 + (c.getD 1 0).toNat) = List.replicate (48 - (c.getD 1 0).toNat) 0
theorem body_secOf (c : List UInt8) (hl : c.length = 60) : ((secOf c).may = true ∧ (secOf c).body = c) ↔ Formed c := by
  match c, hl with
  | k :: m :: x0 :: x1 :: y0 :: y1 :: y2 :: y3 :: z0 :: z1 :: z2 :: z3 :: r, hl =>
    have hr : r.length = 48 := by simpa using hl
    have hk := k.toNat_lt
    have hm := m.toNat_lt
    have fx := fix_unfix6 [x0, x1]
    have fy := fix_unfix6 [y0, y1, y2, y3]
    have fz := fix_unfix6 [z0, z1, z2, z3]
    have lx := unfixL_lt [x0, x1]
    simp only [List.length_cons, List.length_nil, Nat.zero_add, Nat.reduceAdd] at fx fy fz lx
    have e0 : secOf (k :: m :: x0 :: x1 :: y0 :: y1 :: y2 :: y3 :: z0 :: z1 :: z2 :: z3 :: r) = ⟨(k.toNat : Int), (unfixL [y0, y1, y2, y3] : Int), (unfixL [z0, z1, z2, z3] : Int), (unfixL [x0, x1] : Int), r.take m.toNat⟩ := rfl
    have e1 : m.toNat ≤ 48 → Sd.body ⟨(k.toNat : Int), (unfixL [y0, y1, y2, y3] : Int), (unfixL [z0, z1, z2, z3] : Int), (unfixL [x0, x1] : Int), r.take m.toNat⟩ = k :: m :: x0 :: x1 :: y0 :: y1 :: y2 :: y3 :: z0 :: z1 :: z2 :: z3 :: (r.take m.toNat ++ List.replicate (48 - m.toNat) 0) := fun h48 => by
      unfold Sd.body Sd.head
      simp only [Int.toNat_natCast, fx, fy, fz, ofNat_byte, List.length_take, hr, Nat.min_eq_left h48]
      rfl
    rw [e0]
    constructor
    · rintro ⟨h1, h2⟩
      obtain ⟨a1, a2, a3, a4, a5, a6, a7, a8, a9⟩ := (Sd.may_iff _).1 h1
      simp only at a1 a2 a3 a4 a5 a6 a7 a8 a9
      have h48 : m.toNat ≤ 48 := by
        have h3 : (Sd.body ⟨(k.toNat : Int), (unfixL [y0, y1, y2, y3] : Int), (unfixL [z0, z1, z2, z3] : Int), (unfixL [x0, x1] : Int), r.take m.toNat⟩)[1]? = some m := by rw [h2]; rfl
        unfold Sd.body Sd.head at h3
        simp only [List.cons_append, List.getElem?_cons_succ, List.getElem?_cons_zero, Option.some.injEq] at h3
        have h4 : (UInt8.ofNat (r.take m.toNat).length).toNat = (r.take m.toNat).length := ofNat_toNat _ (by omega)
        rw [h3, List.length_take, hr] at h4
        omega
      rw [e1 h48] at h2
      simp only [List.cons.injEq, true_and] at h2
      refine ⟨by show 1 ≤ k.toNat; omega, h48, by show unfixL [y0, y1, y2, y3] ≤ _; omega, by show unfixL [z0, z1, z2, z3] ≤ _; omega, ?_⟩
      show List.drop (12 + m.toNat) _ = List.replicate (48 - m.toNat) 0
      rw [show 12 + m.toNat = m.toNat + 12 by omega]
      simp only [List.drop_succ_cons]
      have h5 : r = r.take m.toNat ++ r.drop m.toNat := (List.take_append_drop _ _).symm
      have h6 := h2.trans h5
      exact (List.append_cancel_left h6).symm
    · rintro ⟨b1, b2, b3, b4, b5⟩
      have c1 : 1 ≤ k.toNat := b1
      have c2 : m.toNat ≤ 48 := b2
      have c3 : unfixL [y0, y1, y2, y3] ≤ 2147483647 := b3
      have c4 : unfixL [z0, z1, z2, z3] ≤ 2147483647 := b4
      have c5 : List.drop (12 + m.toNat) (k :: m :: x0 :: x1 :: y0 :: y1 :: y2 :: y3 :: z0 :: z1 :: z2 :: z3 :: r) = List.replicate (48 - m.toNat) 0 := b5
      rw [show 12 + m.toNat = m.toNat + 12 by omega] at c5
      simp only [List.drop_succ_cons] at c5
      refine ⟨(Sd.may_iff _).2 ⟨?_, ?_, ?_, ?_, ?_, ?_, ?_, ?_, ?_⟩, ?_⟩
      · show (1 : Int) ≤ (k.toNat : Int); omega
      · show (k.toNat : Int) ≤ 255; omega
      · show (0 : Int) ≤ (unfixL [y0, y1, y2, y3] : Int); omega
      · show (unfixL [y0, y1, y2, y3] : Int) ≤ 2147483647; omega
      · show (0 : Int) ≤ (unfixL [z0, z1, z2, z3] : Int); omega
      · show (unfixL [z0, z1, z2, z3] : Int) ≤ 2147483647; omega
      · show (0 : Int) ≤ (unfixL [x0, x1] : Int); omega
      · show (unfixL [x0, x1] : Int) ≤ 65535
        have : (256 : Nat) ^ 2 = 65536 := rfl
        omega
      · show (r.take m.toNat).length ≤ 48
        rw [List.length_take]; omega
      · rw [e1 c2, ← c5, List.take_append_drop]
def getS (b : List UInt8) : Sd × Int :=
  if b.length ≠ 64 then (.zero, 11) else
  match openL b with
  | none => (.zero, 12)
  | some c => if (secOf c).may = true ∧ (secOf c).body = c then (secOf c, 0) else (.zero, 5)
theorem openL_some {b c : List UInt8} (h : openL b = some c) : b = sealL c ∧ c.length + 4 = b.length := by
  unfold openL at h
  split at h
  · rename_i h1
    injection h with h
    subst h
    exact ⟨h1.2.symm, by rw [List.length_take]; omega⟩
  · cases h
theorem sealL_inj {a b : List UInt8} (h : sealL a = sealL b) : a = b := by
  have h1 := congrArg openL h
  rw [open_seal, open_seal] at h1
  injection h1
theorem getS_size {b : List UInt8} (h : b.length ≠ 64) : getS b = (.zero, 11) := by unfold getS; rw [if_pos h]
theorem getS_sum {b : List UInt8} (h : b.length = 64) (ho : openL b = none) : getS b = (.zero, 12) := by unfold getS; rw [if_neg (by omega), ho]
theorem getS_form {b c : List UInt8} (h : b.length = 64) (ho : openL b = some c) (hf : ¬ Formed c) : getS b = (.zero, 5) := by
  have hl := (openL_some ho).2
  unfold getS
  rw [if_neg (by omega), ho]
  simp only
  rw [if_neg (fun hh => hf ((body_secOf c (by omega)).1 hh))]
theorem getS_ok {b c : List UInt8} (h : b.length = 64) (ho : openL b = some c) (hf : Formed c) : getS b = (secOf c, 0) := by
  have hl := (openL_some ho).2
  unfold getS
  rw [if_neg (by omega), ho]
  simp only
  rw [if_pos ((body_secOf c (by omega)).2 hf)]
theorem getS_put (s : Sd) (h : s.may = true) : getS s.bytes = (s, 0) := by
  have h48 := ((s.may_iff).1 h).2.2.2.2.2.2.2.2
  have h1 := secOf_body s h
  rw [getS_ok (c := s.body) (Sd.bytes_length s h48) (open_seal _) ((body_secOf _ (Sd.body_length s h48)).1 ⟨by rw [h1]; exact h, by rw [h1]⟩), h1]
theorem getS_bytes {b : List UInt8} (h : (getS b).2 = 0) : (getS b).1.may = true ∧ (getS b).1.bytes = b := by
  by_cases h64 : b.length = 64
  · cases ho : openL b with
    | none => rw [getS_sum h64 ho] at h; simp at h
    | some c =>
      have hs := openL_some ho
      by_cases hf : Formed c
      · rw [getS_ok h64 ho hf]
        obtain ⟨h1, h2⟩ := (body_secOf c (by omega)).2 hf
        refine ⟨h1, ?_⟩
        show sealL (secOf c).body = b
        rw [h2, hs.1]
      · rw [getS_form h64 ho hf] at h; simp at h
  · rw [getS_size h64] at h; simp at h
end Go.Proofs.Ytkockhggnbfahaa
end
section
set_option linter.unusedVariables false
namespace Go.Proofs.Ytkockhggnbfahaa
open Go.RowKit
abbrev Only (w w' : World) (g : Nat) : Prop := w.grownBy w' (some g)
theorem only_trans {a b c : World} {g : Nat} (h : Only a b g) (k : Only b c g) : Only a c g :=
  ⟨k.os.trans h.os, k.tape.trans h.tape, k.output.trans h.output, Nat.le_trans h.size k.size, fun i hi hn => (k.block i (Nat.lt_of_lt_of_le hi h.size) hn).trans (h.block i hi hn)⟩
theorem only_refl (w : World) (g : Nat) : Only w w g := ⟨rfl, rfl, rfl, Nat.le_refl _, fun _ _ _ => rfl⟩
theorem only_set (w : World) (g i : Nat) (u : Value) : Only w (w.setCell ⟨g, i, none⟩ u) g :=
  ⟨rfl, rfl, rfl, by simp [World.setCell], fun k _ hk => heap_setCell_other w ⟨g, i, none⟩ k u (fun e => hk (by simp [e]))⟩
theorem only_below {a w : World} (h : Below a.heap.size a w) (g : Nat) : Only a w g := ⟨h.os, h.tape, h.output, h.size, fun i hi _ => h.block i hi⟩
theorem below_only {B g : Nat} {a w w' : World} (h : Below B a w) (k : Only w w' g) (hg : B ≤ g) (hB : B ≤ w.heap.size) : Below B a w' :=
  h.trans ⟨k.os, k.tape, k.output, k.size, fun i hi => k.block i (by omega) (by simp; omega)⟩
theorem only_alloc {a w : World} {g : Nat} (h : Only a w g) (o : Obj) : Only a (w.alloc o) g :=
  ⟨h.os, h.tape, h.output, Nat.le_trans h.size (by simp), fun i hi hne => (Below.heap_alloc w o i (Nat.lt_of_lt_of_le hi h.size)).trans (h.block i hi hne)⟩
theorem below_drew {B : Nat} {w w' : World} (h : Below B w.drew w') : Below B w w' := ⟨h.os, h.tape, h.output, h.size, h.block⟩
theorem Reads.only {w w' : World} {B size n g : Nat} {A : Option Addr} {xs : List Value} (h : Reads w B size A n xs) (hl : B ≤ w.heap.size) (ho : Only w w' g) (ha : ∀ ad, A = some ad → ad.block ≠ g) : Reads w' B size A n xs := by
  refine ⟨h.1, fun h0 => ?_⟩
  obtain ⟨ad, e, hb, hc⟩ := h.2 h0
  refine ⟨ad, e, hb, fun j u hu => ?_⟩
  have := ho.block ad.block (by omega) (by simp; exact ha ad e)
  have h1 := hc j u hu
  have eb : (ad.add j).block = ad.block := block_of_add _ _
  unfold World.cell? at h1 ⊢
  rw [eb, this]
  rw [eb] at h1
  exact h1
theorem Blk.only {w w' : World} {g k : Nat} {t : TypeId} {cs : Array Value} (h : Blk w g t cs) (ho : Only w w' k) (hg : g ≠ k) : Blk w' g t cs := by
  have := ho.block g h.lt (by simp; omega)
  unfold Blk at h ⊢
  rw [this]; exact h
end Go.Proofs.Ytkockhggnbfahaa
end
section
set_option linter.unusedVariables false
namespace Go.Proofs.Ytkockhggnbfahaa
open Go.RowKit
section
variable {P : Program} {Q : Exit → Act → World → Prop} {a : Act}
theorem wpList_wanted {ops : Array Oper} {o : Oper} {rest : List Oper} {w : World} (hw : Region.wanted o (yielded ops a.tmps) = true)
    (h : ∀ K : Act → World → Prop, (∀ a w, wpList P ops Q rest a w → K a w) → o.wp P a w K Q) : wpList P ops Q (o :: rest) a w :=
  wpList_step fun K hK => by rw [if_pos hw]; exact h K hK
theorem wpList_load_yes {ops : Array Oper} {rest : List Oper} {o : Oper} {w : World} (hw : Region.wanted o (yielded ops a.tmps) = true) (ty : TypeId) (x : Operand) (ho : o.op = .load ty x)
    (g : Nat) (hx : a.eval x = .pointer (some ⟨g, 0, none⟩)) (t : TypeId) (cs : Array Value) (fr : Nat × Nat) (d : TypeDesc) (hg : w.heap[g]? = some (.cells cs t fr))
    (hu : P.underlying ty = some d) (hd : (match d with | .struct _ | .array _ _ => true | _ => false) = true) (hi : (P.info? ty).map (·.size) = some cs.size)
    (h : wpList P ops Q rest (a.put o.dst (.agg cs)) w) : wpList P ops Q (o :: rest) a w :=
  wpList_wanted hw fun _ hK => wp_load_row ty x ho g hx t cs fr d hg hu hd hi (hK _ _ h)
theorem wpAny_tail {md : Region.Mode} {l : List Oper} {fuel : Nat} {listed : Array Bool} {w : World} (n : Nat) (hf : fuel = (l.drop n).length)
    (hB : Region.seqB md l.toArray (l.drop n).length n listed = true) (h : wpList P l.toArray Q (l.drop n) a w) : wpAny P md l.toArray Q fuel listed a w := by
  subst hf
  exact wpAny_of_seq (l.drop n) n listed a w (fun j => by simp [List.getElem?_drop]) hB h
end
end Go.Proofs.Ytkockhggnbfahaa
end
