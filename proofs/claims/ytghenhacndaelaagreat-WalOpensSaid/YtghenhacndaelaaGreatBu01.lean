/- Lemmas under the proofs of this place: Only, Law, SectPlain, DiskPlain, Letters, Guard. No statement is proved here. -/
import Derived.Test.YtghenhacndaelaaGreatBu00
import Derived.Test.YtghenhacndaelaaGreatRows
import Derived.ProofKit
import Derived.OpenShut
import Derived.Laws.IdiomArrays
import Derived.Deep.WholeRow
import Derived.Deep.MidRow
import Derived.Great.Walk
import Derived.Great.Ranges
import Derived.Great.BuildSlice
import Derived.Lib.Hide
import Derived.BigQuiet
import Derived.StillTail
set_option linter.unusedSimpArgs false
set_option linter.unusedVariables false
namespace Go.Proofs.YtghenhacndaelaaGreat
section
open Go.RowKit
abbrev Only (w w' : World) (g : Nat) : Prop := w.grownBy w' (some g)
theorem only_trans {a b c : World} {g : Nat} (h : Only a b g) (k : Only b c g) : Only a c g :=
  ⟨k.os.trans h.os, k.tape.trans h.tape, k.output.trans h.output, Nat.le_trans h.size k.size, fun i hi hn => (k.block i (Nat.lt_of_lt_of_le hi h.size) hn).trans (h.block i hi hn)⟩
theorem only_refl (w : World) (g : Nat) : Only w w g := ⟨rfl, rfl, rfl, Nat.le_refl _, fun _ _ _ => rfl⟩
theorem only_set (w : World) (g i : Nat) (u : Value) : Only w (w.setCell ⟨g, i, none⟩ u) g :=
  ⟨rfl, rfl, rfl, by simp [World.setCell], fun k _ hk => heap_setCell_other w ⟨g, i, none⟩ k u (fun e => hk (by simp [e]))⟩
theorem only_below {a w : World} (h : Below a.heap.size a w) (g : Nat) : Only a w g := ⟨h.os, h.tape, h.output, h.size, fun i hi _ => h.block i hi⟩
theorem below_only {B g : Nat} {a w w' : World} (h : Below B a w) (k : Only w w' g) (hg : B ≤ g) (hB : B ≤ w.heap.size) : Below B a w' :=
  h.trans ⟨k.os, k.tape, k.output, k.size, fun i hi => k.block i (by omega) (by simp; omega)⟩
theorem only_alloc {a w : World} {g : Nat} (h : Only a w g) (o : Obj) : Only a (w.alloc o) g :=
  ⟨h.os, h.tape, h.output, Nat.le_trans h.size (by simp), fun i hi hne => (Below.heap_alloc w o i (Nat.lt_of_lt_of_le hi h.size)).trans (h.block i hi hne)⟩
theorem below_drew {B : Nat} {w w' : World} (h : Below B w.drew w') : Below B w w' := ⟨h.os, h.tape, h.output, h.size, h.block⟩
theorem Reads.only {w w' : World} {B size n g : Nat} {A : Option Addr} {xs : List Value} (h : Reads w B size A n xs) (hl : B ≤ w.heap.size) (ho : Only w w' g) (ha : ∀ ad, A = some ad → ad.block ≠ g) : Reads w' B size A n xs := by
  refine ⟨h.1, fun h0 => ?_⟩
  obtain ⟨ad, e, hb, hc⟩ := h.2 h0
  refine ⟨ad, e, hb, fun j u hu => ?_⟩
  have := ho.block ad.block (by omega) (by simp; exact ha ad e)
  have h1 := hc j u hu
  have eb : (ad.add j).block = ad.block := block_of_add _ _
  unfold World.cell? at h1 ⊢
  rw [eb, this]
  rw [eb] at h1
  exact h1
theorem Blk.only {w w' : World} {g k : Nat} {t : TypeId} {cs : Array Value} (h : Blk w g t cs) (ho : Only w w' k) (hg : g ≠ k) : Blk w' g t cs := by
  have := ho.block g h.lt (by simp; omega)
  unfold Blk at h ⊢
  rw [this]; exact h
end
section
open Go.ChangeShapes Go.WideShapes Go.ChangeAt Go.RowKit
theorem Tryz.own : ownKnob Tryz.prog.godebug = none := by kernel_rfl
theorem Tryz.laidOut : laidOutB Tryz.prog = true := by kernel_rfl
section
variable {H : Type} {enc : TypeId × Value → H} {P : Program}
theorem trodAll_stays (hl : laidOutB P = true) {W W' : World} {sp : Nat → Bool} : ∀ {ts : List TypeId} {vs : List Value} {ds : List (DataW H)} {ps : List MemPlace}, ts.all (fun t => P.readableRec t && decide (t < P.types.size)) = true →
    DataW.TrodAll enc P W 0 (fun _ => true) true ts vs ds ps → (∀ p ∈ ps, W.sameAt W' p) → (∀ p ∈ ps, sp p.block = true) → DataW.TrodAll enc P W' 0 sp true ts vs ds ps := by
  intro ts
  induction ts with
  | nil =>
    intro vs ds ps _ h _ _
    obtain ⟨rfl, rfl, rfl⟩ := trodAll_nil h
    exact trodAll_mk0
  | cons t ts ih =>
    intro vs ds ps hr h hs hp
    obtain ⟨v, vs', d, ds', p, q, rfl, rfl, rfl, h1, h2⟩ := trodAll_cons h
    simp only [List.all_cons, Bool.and_eq_true, decide_eq_true_eq] at hr
    obtain ⟨⟨hr1, hr2⟩, hr3⟩ := hr
    exact trodAll_cons_mk (WideElems.Trod_stays hl hr1 hr2 h1 (fun x hx => hs x (List.mem_append_left _ hx)) (fun x hx => hp x (List.mem_append_left _ hx)))
      (ih hr3 h2 (fun x hx => hs x (List.mem_append_right _ hx)) (fun x hx => hp x (List.mem_append_right _ hx)))
theorem law_post (hl : laidOutB P = true) {f : Func} {s : ChangeSpec} {W W' : World} {args : Array Value} {ds gs : List (DataW H)} {before : List MemPlace}
    (hW : DataW.Whole enc P f.params.toList s.vars false W args.toList ds gs before) (hv : s.vars = [])
    (hres : (s.fn H (ds ++ gs)).results = [.lit (.bool true)]) (hargs : (s.fn H (ds ++ gs)).args = ds) (hvs : (s.fn H (ds ++ gs)).vars = [])
    (hf : f.resultTypes = #[4]) (h4 : P.underlying 4 = some .bool) (hr : f.params.toList.all (fun t => P.readableRec t && decide (t < P.types.size)) = true)
    (hb : Below W.heap.size W W') : s.post enc P f false true false false W args (.bool true) W' := by
  have hlt : ∀ p ∈ before, p.block < W.heap.size := fun p hp => hW.lt p hp
  have hW' := hW
  obtain ⟨p, q, hA, hV, rfl, hfz, hnd⟩ := hW'
  rw [hv] at hV
  obtain ⟨rfl, rfl⟩ := trodVars_none hV
  have hsame : ∀ x ∈ p, W.sameAt W' x := fun x hx => hb.same (hlt x (List.mem_append_left _ hx))
  refine post_of_below (pa := p) (pv := []) hW (fun b sp hd => ?_) (fun sp hsp => ?_) (fun sp _ => ?_) rfl hb ?_
  · rw [hres, hf]
    exact trodAll_mk1 (shut_bool h4 true)
  · rw [hargs]
    exact trodAll_stays hl hr hA hsame (fun x hx => hsp x (List.mem_append_left _ hx))
  · rw [hv, hvs]
    exact rfl
  · exact ok_one hf rfl (okWide_bool_mk h4 true)
def RI (w : World) (B : Nat) (A : Option Addr) (Z : List Int) : Prop :=
  0 < Z.length → ∃ b off, A = some ⟨b, off, none⟩ ∧ b < B ∧ ∀ k (hk : k < Z.length), w.cell? ⟨b, off + k, none⟩ = some (.int .i64 Z[k])
end
end
section
structure Sd where
  kind : Int
  epoch : Int
  number : Int
  left : Int
  data : List UInt8
instance : DecidableEq Sd := fun a b =>
  if h : a.kind = b.kind ∧ a.epoch = b.epoch ∧ a.number = b.number ∧ a.left = b.left ∧ a.data = b.data then
    .isTrue (by obtain ⟨h1, h2, h3, h4, h5⟩ := h; cases a; cases b; simp only at h1 h2 h3 h4 h5; subst h1 h2 h3 h4 h5; rfl)
  else .isFalse (fun e => h (by subst e; exact ⟨rfl, rfl, rfl, rfl, rfl⟩))
def Sd.zero : Sd := ⟨0, 0, 0, 0, []⟩
def Sd.may (s : Sd) : Bool := decide (1 ≤ s.kind) && (decide (s.kind ≤ 255) && (decide (0 ≤ s.epoch) && (decide (s.epoch ≤ 2147483647) && (decide (0 ≤ s.number) && (decide (s.number ≤ 2147483647) && (decide (0 ≤ s.left) && (decide (s.left ≤ 65535) && decide (s.data.length ≤ 48))))))))
theorem Sd.may_iff (s : Sd) : s.may = true ↔ 1 ≤ s.kind ∧ s.kind ≤ 255 ∧ 0 ≤ s.epoch ∧ s.epoch ≤ 2147483647 ∧ 0 ≤ s.number ∧ s.number ≤ 2147483647 ∧ 0 ≤ s.left ∧ s.left ≤ 65535 ∧ s.data.length ≤ 48 := by
  unfold Sd.may
  simp only [Bool.and_eq_true, decide_eq_true_eq]
def Sd.head (s : Sd) : List UInt8 := UInt8.ofNat s.kind.toNat :: UInt8.ofNat s.data.length :: (fixL 2 s.left.toNat ++ (fixL 4 s.epoch.toNat ++ fixL 4 s.number.toNat))
def Sd.body (s : Sd) : List UInt8 := s.head ++ (s.data ++ List.replicate (48 - s.data.length) 0)
def Sd.bytes (s : Sd) : List UInt8 := sealL s.body
theorem Sd.head_length (s : Sd) : s.head.length = 12 := by
  unfold Sd.head
  simp [fixL_length]
theorem Sd.body_length (s : Sd) (h : s.data.length ≤ 48) : s.body.length = 60 := by
  unfold Sd.body
  rw [List.length_append, List.length_append, List.length_replicate, Sd.head_length]
  omega
theorem Sd.bytes_length (s : Sd) (h : s.data.length ≤ 48) : s.bytes.length = 64 := by
  unfold Sd.bytes
  rw [sealL_length, Sd.body_length s h]
def secOf (c : List UInt8) : Sd := ⟨((c.getD 0 0).toNat : Int), (unfixL ((c.drop 4).take 4) : Int), (unfixL ((c.drop 8).take 4) : Int), (unfixL ((c.drop 2).take 2) : Int), (c.drop 12).take (c.getD 1 0).toNat⟩
theorem fix_unfix6 : ∀ (l : List UInt8), fixL l.length (unfixL l) = l
  | [] => rfl
  | x :: l => by
    have hx := x.toNat_lt
    show fixL (l.length + 1) (x.toNat + 256 * unfixL l) = x :: l
    have h1 : (x.toNat + 256 * unfixL l) % 256 = x.toNat := by omega
    have h2 : (x.toNat + 256 * unfixL l) / 256 = unfixL l := by omega
    rw [fixL, h1, h2, fix_unfix6 l, ofNat_byte]
structure Formed (c : List UInt8) : Prop where
  kind : 1 ≤ (c.getD 0 0).toNat
  len : (c.getD 1 0).toNat ≤ 48
  epoch : unfixL ((c.drop 4).take 4) ≤ 2147483647
  number : unfixL ((c.drop 8).take 4) ≤ 2147483647
  zero : c.drop (12 + (c.getD 1 0).toNat) = List.replicate (48 - (c.getD 1 0).toNat) 0
theorem body_secOf (c : List UInt8) (hl : c.length = 60) : ((secOf c).may = true ∧ (secOf c).body = c) ↔ Formed c := by
  match c, hl with
  | k :: m :: x0 :: x1 :: y0 :: y1 :: y2 :: y3 :: z0 :: z1 :: z2 :: z3 :: r, hl =>
    have hr : r.length = 48 := by simpa using hl
    have hk := k.toNat_lt
    have hm := m.toNat_lt
    have fx := fix_unfix6 [x0, x1]
    have fy := fix_unfix6 [y0, y1, y2, y3]
    have fz := fix_unfix6 [z0, z1, z2, z3]
    have lx := unfixL_lt [x0, x1]
    simp only [List.length_cons, List.length_nil, Nat.zero_add, Nat.reduceAdd] at fx fy fz lx
    have e0 : secOf (k :: m :: x0 :: x1 :: y0 :: y1 :: y2 :: y3 :: z0 :: z1 :: z2 :: z3 :: r) = ⟨(k.toNat : Int), (unfixL [y0, y1, y2, y3] : Int), (unfixL [z0, z1, z2, z3] : Int), (unfixL [x0, x1] : Int), r.take m.toNat⟩ := rfl
    have e1 : m.toNat ≤ 48 → Sd.body ⟨(k.toNat : Int), (unfixL [y0, y1, y2, y3] : Int), (unfixL [z0, z1, z2, z3] : Int), (unfixL [x0, x1] : Int), r.take m.toNat⟩ = k :: m :: x0 :: x1 :: y0 :: y1 :: y2 :: y3 :: z0 :: z1 :: z2 :: z3 :: (r.take m.toNat ++ List.replicate (48 - m.toNat) 0) := fun h48 => by
      unfold Sd.body Sd.head
      simp only [Int.toNat_natCast, fx, fy, fz, ofNat_byte, List.length_take, hr, Nat.min_eq_left h48]
      rfl
    rw [e0]
    constructor
    · rintro ⟨h1, h2⟩
      obtain ⟨a1, a2, a3, a4, a5, a6, a7, a8, a9⟩ := (Sd.may_iff _).1 h1
      simp only at a1 a2 a3 a4 a5 a6 a7 a8 a9
      have h48 : m.toNat ≤ 48 := by
        have h3 : (Sd.body ⟨(k.toNat : Int), (unfixL [y0, y1, y2, y3] : Int), (unfixL [z0, z1, z2, z3] : Int), (unfixL [x0, x1] : Int), r.take m.toNat⟩)[1]? = some m := by rw [h2]; rfl
        unfold Sd.body Sd.head at h3
        simp only [List.cons_append, List.getElem?_cons_succ, List.getElem?_cons_zero, Option.some.injEq] at h3
        have h4 : (UInt8.ofNat (r.take m.toNat).length).toNat = (r.take m.toNat).length := ofNat_toNat _ (by omega)
        rw [h3, List.length_take, hr] at h4
        omega
      rw [e1 h48] at h2
      simp only [List.cons.injEq, true_and] at h2
      refine ⟨by show 1 ≤ k.toNat; omega, h48, by show unfixL [y0, y1, y2, y3] ≤ _; omega, by show unfixL [z0, z1, z2, z3] ≤ _; omega, ?_⟩
      show List.drop (12 + m.toNat) _ = List.replicate (48 - m.toNat) 0
      rw [show 12 + m.toNat = m.toNat + 12 by omega]
      simp only [List.drop_succ_cons]
      have h5 : r = r.take m.toNat ++ r.drop m.toNat := (List.take_append_drop _ _).symm
      have h6 := h2.trans h5
      exact (List.append_cancel_left h6).symm
    · rintro ⟨b1, b2, b3, b4, b5⟩
      have c1 : 1 ≤ k.toNat := b1
      have c2 : m.toNat ≤ 48 := b2
      have c3 : unfixL [y0, y1, y2, y3] ≤ 2147483647 := b3
      have c4 : unfixL [z0, z1, z2, z3] ≤ 2147483647 := b4
      have c5 : List.drop (12 + m.toNat) (k :: m :: x0 :: x1 :: y0 :: y1 :: y2 :: y3 :: z0 :: z1 :: z2 :: z3 :: r) = List.replicate (48 - m.toNat) 0 := b5
      rw [show 12 + m.toNat = m.toNat + 12 by omega] at c5
      simp only [List.drop_succ_cons] at c5
      refine ⟨(Sd.may_iff _).2 ⟨?_, ?_, ?_, ?_, ?_, ?_, ?_, ?_, ?_⟩, ?_⟩
      · show (1 : Int) ≤ (k.toNat : Int); omega
      · show (k.toNat : Int) ≤ 255; omega
      · show (0 : Int) ≤ (unfixL [y0, y1, y2, y3] : Int); omega
      · show (unfixL [y0, y1, y2, y3] : Int) ≤ 2147483647; omega
      · show (0 : Int) ≤ (unfixL [z0, z1, z2, z3] : Int); omega
      · show (unfixL [z0, z1, z2, z3] : Int) ≤ 2147483647; omega
      · show (0 : Int) ≤ (unfixL [x0, x1] : Int); omega
      · show (unfixL [x0, x1] : Int) ≤ 65535
        have : (256 : Nat) ^ 2 = 65536 := rfl
        omega
      · show (r.take m.toNat).length ≤ 48
        rw [List.length_take]; omega
      · rw [e1 c2, ← c5, List.take_append_drop]
def getS (b : List UInt8) : Sd × Int :=
  if b.length ≠ 64 then (.zero, 11) else
  match openL b with
  | none => (.zero, 12)
  | some c => if (secOf c).may = true ∧ (secOf c).body = c then (secOf c, 0) else (.zero, 5)
theorem sealL_inj {a b : List UInt8} (h : sealL a = sealL b) : a = b := by
  have h1 := congrArg openL h
  rw [open_seal, open_seal] at h1
  injection h1
theorem getS_size {b : List UInt8} (h : b.length ≠ 64) : getS b = (.zero, 11) := by unfold getS; rw [if_pos h]
theorem getS_sum {b : List UInt8} (h : b.length = 64) (ho : openL b = none) : getS b = (.zero, 12) := by unfold getS; rw [if_neg (by omega), ho]
theorem getS_form {b c : List UInt8} (h : b.length = 64) (ho : openL b = some c) (hf : ¬ Formed c) : getS b = (.zero, 5) := by
  have hl := (openL_some ho).2
  unfold getS
  rw [if_neg (by omega), ho]
  simp only
  rw [if_neg (fun hh => hf ((body_secOf c (by omega)).1 hh))]
theorem getS_ok {b c : List UInt8} (h : b.length = 64) (ho : openL b = some c) (hf : Formed c) : getS b = (secOf c, 0) := by
  have hl := (openL_some ho).2
  unfold getS
  rw [if_neg (by omega), ho]
  simp only
  rw [if_pos ((body_secOf c (by omega)).2 hf)]
theorem getS_bytes {b : List UInt8} (h : (getS b).2 = 0) : (getS b).1.may = true ∧ (getS b).1.bytes = b := by
  by_cases h64 : b.length = 64
  · cases ho : openL b with
    | none => rw [getS_sum h64 ho] at h; simp at h
    | some c =>
      have hs := openL_some ho
      by_cases hf : Formed c
      · rw [getS_ok h64 ho hf]
        obtain ⟨h1, h2⟩ := (body_secOf c (by omega)).2 hf
        refine ⟨h1, ?_⟩
        show sealL (secOf c).body = b
        rw [h2, hs.1]
      · rw [getS_form h64 ho hf] at h; simp at h
  · rw [getS_size h64] at h; simp at h
def needN (n : Nat) : Nat := (n + 47) / 48
def Sd.part (s : Sd) (t : List UInt8) (n i : Nat) : Sd := ⟨if i = 0 then s.kind else s.kind + 1, s.epoch, s.number + (i : Int), ((n - 1 - i : Nat) : Int), (t.drop (48 * i)).take 48⟩
def splitS (s : Sd) (t : List UInt8) : List Sd × Int :=
  if needN t.length = 0 then ([], 1) else if 65536 < needN t.length then ([], 3) else
  if (List.range (needN t.length)).all (fun i => (s.part t (needN t.length) i).may) = true then ((List.range (needN t.length)).map (s.part t (needN t.length)), 0) else ([], 1)
theorem parts_data (t : List UInt8) : ∀ k, 48 * k ≤ t.length + 47 → (List.range k).flatMap (fun i => (t.drop (48 * i)).take 48) = t.take (48 * k)
  | 0, _ => by simp
  | k + 1, h => by
    rw [List.range_succ, List.flatMap_append, parts_data t k (by omega)]
    simp only [List.flatMap_cons, List.flatMap_nil, List.append_nil]
    rw [show 48 * (k + 1) = 48 * k + 48 by omega, List.take_add]
theorem split_text (s : Sd) (t : List UInt8) (n m : Nat) (hn : n = needN t.length) : ((List.range n).map (s.part t m)).flatMap (·.data) = t := by
  rw [List.flatMap_map]
  show (List.range n).flatMap (fun i => (t.drop (48 * i)).take 48) = t
  have h1 : needN t.length = (t.length + 47) / 48 := rfl
  rw [parts_data t n (by omega)]
  exact List.take_of_length_le (by omega)
end
section
structure Dk where
  safe : List (List UInt8)
  waits : List (Nat × List UInt8)
  left : Int
  off : Bool
  reads : Nat
  writes : Nat
  flushes : Nat
deriving DecidableEq
namespace Dk
def lastOf (n : Nat) : List (Nat × List UInt8) → Option (List UInt8)
  | [] => none
  | x :: l => match lastOf n l with
    | some b => some b
    | none => if x.1 = n then some x.2 else none
def now (d : Dk) (n : Nat) : List UInt8 := (lastOf n d.waits).getD (d.safe.getD n [])
def there (d : Dk) (i : Int) : Bool := decide (0 ≤ i ∧ i < d.safe.length)
def blank (n : Nat) : Dk := ⟨List.replicate n (List.replicate 256 0), [], -1, false, 0, 0, 0⟩
def read (d : Dk) (i : Int) : Dk × List UInt8 × Int :=
  if d.off then (d, [], 9) else if !d.there i then (d, [], 10) else ({ d with reads := d.reads + 1 }, d.now i.toNat, 0)
def deed (d : Dk) : Dk × Bool :=
  if d.left = 0 then ({ d with off := true }, false) else if 0 < d.left then ({ d with left := d.left - 1 }, true) else (d, true)
def write (d : Dk) (i : Int) (b : List UInt8) : Dk × Int :=
  if d.off then (d, 9) else if !d.there i then (d, 10) else if b.length ≠ 256 then (d, 11)
  else match deed { d with waits := d.waits ++ [(i.toNat, b)] } with
    | (e, false) => (e, 9)
    | (e, true) => ({ e with writes := e.writes + 1 }, 0)
def laid (safe : List (List UInt8)) : List (Nat × List UInt8) → List (List UInt8)
  | [] => safe
  | x :: l => laid (safe.set x.1 x.2) l
def flush (d : Dk) : Dk × Int :=
  if d.off then (d, 9) else match deed d with
    | (e, false) => (e, 9)
    | (e, true) => ({ e with safe := laid e.safe e.waits, waits := [], flushes := e.flushes + 1 }, 0)
def stop (d : Dk) (i : Int) : Dk × Int := if i < 0 then (d, 1) else ({ d with left := i }, 0)
def bitOf (m : Int) (k : Nat) : Bool := decide (m / 2 ^ k % 2 = 1)
def sector (b : List UInt8) (k : Nat) : List UInt8 := (b.drop (64 * k)).take 64
def torn (was b : List UInt8) (m : Int) : List UInt8 := (List.range 4).flatMap fun k => sector (if bitOf m k then b else was) k
def crashed (masks : List Int) (safe : List (List UInt8)) : List (Nat × List UInt8) → Nat → List (List UInt8)
  | [], _ => safe
  | x :: l, i => if i < masks.length then crashed masks (safe.set x.1 (torn (safe.getD x.1 []) x.2 (masks.getD i 0))) l (i + 1) else crashed masks safe l (i + 1)
def crash (d : Dk) (masks : List Int) : Dk := { d with safe := crashed masks d.safe d.waits 0, waits := [], off := false, left := -1 }
def image (d : Dk) : List UInt8 := (List.range d.safe.length).flatMap d.now
def sure (d : Dk) : List UInt8 := d.safe.flatten
def fit (d : Dk) : Prop := (∀ b ∈ d.safe, b.length = 256) ∧ ∀ x ∈ d.waits, x.1 < d.safe.length ∧ x.2.length = 256
theorem lastOf_append (n : Nat) (l : List (Nat × List UInt8)) (x : Nat × List UInt8) : lastOf n (l ++ [x]) = if x.1 = n then some x.2 else lastOf n l := by
  induction l with
  | nil => simp [lastOf]
  | cons y l ih =>
    rw [List.cons_append, lastOf, ih, lastOf]
    by_cases h : x.1 = n
    · simp [h]
    · simp [h]
theorem laid_length (l : List (Nat × List UInt8)) : ∀ safe : List (List UInt8), (laid safe l).length = safe.length := by
  induction l with
  | nil => intro safe; rfl
  | cons x l ih => intro safe; rw [laid, ih]; simp
theorem crashed_length (masks : List Int) (l : List (Nat × List UInt8)) : ∀ (safe : List (List UInt8)) (i : Nat), (crashed masks safe l i).length = safe.length := by
  induction l with
  | nil => intro safe i; rfl
  | cons x l ih =>
    intro safe i
    rw [crashed]
    split
    · rw [ih]; simp
    · rw [ih]
theorem laid_get (n : Nat) (l : List (Nat × List UInt8)) : ∀ safe : List (List UInt8), n < safe.length → (laid safe l).getD n [] = (lastOf n l).getD (safe.getD n []) := by
  induction l with
  | nil => intro safe _; rfl
  | cons x l ih =>
    intro safe hn
    rw [laid, ih _ (by simpa using hn), lastOf]
    cases lastOf n l with
    | some b => rfl
    | none =>
      by_cases h : x.1 = n
      · rw [if_pos h, h]; simp [List.getD, List.getElem?_set_self hn]
      · rw [if_neg h]; simp [List.getD, List.getElem?_set_ne h]
theorem torn_length (was b : List UInt8) (m : Int) (h1 : was.length = 256) (h2 : b.length = 256) : (torn was b m).length = 256 := by
  unfold torn
  have e : ∀ k, k < 4 → (sector (if bitOf m k then b else was) k).length = 64 := fun k hk => by
    unfold sector
    split <;> simp <;> omega
  simp only [List.range, List.range.loop, List.flatMap_cons, List.flatMap_nil, List.length_append, List.length_nil]
  rw [e 0 (by omega), e 1 (by omega), e 2 (by omega), e 3 (by omega)]
theorem lastOf_none (n : Nat) : ∀ l : List (Nat × List UInt8), (∀ x ∈ l, x.1 ≠ n) → lastOf n l = none
  | [], _ => rfl
  | x :: l, h => by rw [lastOf, lastOf_none n l (fun y hy => h y (List.mem_cons_of_mem _ hy)), if_neg (h x (List.mem_cons_self ..))]
theorem deed_same (d : Dk) : (deed d).1.safe = d.safe ∧ (deed d).1.waits = d.waits := by
  unfold deed
  split
  · exact ⟨rfl, rfl⟩
  · split <;> exact ⟨rfl, rfl⟩
theorem lastOf_mem (n : Nat) : ∀ (l : List (Nat × List UInt8)) (b : List UInt8), lastOf n l = some b → (n, b) ∈ l
  | [], b, h => by cases h
  | x :: l, b, h => by
    rw [lastOf] at h
    cases hl : lastOf n l with
    | some c =>
      rw [hl] at h
      simp only [Option.some.injEq] at h
      subst h
      exact List.mem_cons_of_mem _ (lastOf_mem n l c hl)
    | none =>
      rw [hl] at h
      simp only at h
      split at h
      · rename_i hx
        simp only [Option.some.injEq] at h
        subst h hx
        exact List.mem_cons_self ..
      · cases h
theorem fit_now {d : Dk} (h : fit d) {n : Nat} (hn : n < d.safe.length) : (d.now n).length = 256 := by
  unfold now
  cases hl : lastOf n d.waits with
  | some b => exact (h.2 _ (lastOf_mem n _ b hl)).2
  | none =>
    simp only [Option.getD_none, List.getD, List.getElem?_eq_getElem hn, Option.getD_some]
    exact h.1 _ (List.getElem_mem hn)
theorem laid_fit (l : List (Nat × List UInt8)) : ∀ safe : List (List UInt8), (∀ b ∈ safe, b.length = 256) → (∀ x ∈ l, x.2.length = 256) → ∀ b ∈ laid safe l, b.length = 256 := by
  induction l with
  | nil => intro safe h _; exact h
  | cons x l ih =>
    intro safe h hx
    rw [laid]
    refine ih _ (fun b hb => ?_) (fun y hy => hx y (List.mem_cons_of_mem _ hy))
    rcases List.mem_or_eq_of_mem_set hb with h1 | h1
    · exact h b h1
    · rw [h1]; exact hx x (List.mem_cons_self ..)
theorem crashed_fit (masks : List Int) (l : List (Nat × List UInt8)) : ∀ (safe : List (List UInt8)) (i : Nat), (∀ b ∈ safe, b.length = 256) → (∀ x ∈ l, x.1 < safe.length ∧ x.2.length = 256) → ∀ b ∈ crashed masks safe l i, b.length = 256 := by
  induction l with
  | nil => intro safe i h _; exact h
  | cons x l ih =>
    intro safe i h hx
    rw [crashed]
    split
    · refine ih _ _ (fun b hb => ?_) (fun y hy => by rw [List.length_set]; exact hx y (List.mem_cons_of_mem _ hy))
      rcases List.mem_or_eq_of_mem_set hb with h1 | h1
      · exact h b h1
      · have h0 := hx x (List.mem_cons_self ..)
        rw [h1]
        refine torn_length _ _ _ ?_ h0.2
        rw [List.getD, List.getElem?_eq_getElem h0.1]
        exact h _ (List.getElem_mem h0.1)
    · exact ih _ _ h (fun y hy => hx y (List.mem_cons_of_mem _ hy))
end Dk
end
section
open Go.RowKit
theorem wpList_box_letter {P : Program} {ops : Array Oper} {rest : List Oper} {o : Oper} {a : Act} {w : World} {Q : Exit → Act → World → Prop} (hg : o.guard = none) (t : TypeId) (x : Operand) (ho : o.op = .box t x)
    (dst : Option Tmp) (hdst : o.dst = dst) (cs : Array Value) (hx : a.eval x = .agg cs)
    (h : ∀ g W, Hid (W = w.alloc (.cells cs t)) → Hid (g = w.heap.size) → wpList P ops Q rest (a.put dst (.pointer (some ⟨g, 0, none⟩))) W) : wpList P ops Q (o :: rest) a w :=
  Great.wpList_boxTo hg t x ho dst hdst w.heap.size rfl cs (by rw [hx]; rfl) (h _ _ (Lib.hid rfl) (Lib.hid rfl))
theorem wpList_alloc_letter {P : Program} {ops : Array Oper} {rest : List Oper} {o : Oper} {a : Act} {w : World} {Q : Exit → Act → World → Prop} (hg : o.guard = none) (t : TypeId) (ho : o.op = .alloc t)
    (dst : Option Tmp) (hdst : o.dst = dst) (cs : Array Value) (hz : (P.info? t).map (fun i => (i.zero, i.size)) = some (some (.agg cs), cs.size))
    (h : ∀ g W, Hid (W = w.alloc (.cells cs t)) → Hid (g = w.heap.size) → wpList P ops Q rest (a.put dst (.pointer (some ⟨g, 0, none⟩))) W) : wpList P ops Q (o :: rest) a w := by
  have hz1 := (zero_of_info hz).1
  refine wpList_plain hg fun K hK => ?_
  unfold Oper.wp execOp
  subst hdst
  simp only [ho, Sem.run_bind, Instr.alloc, newVar, newRow, hz1, run_newObj_alloc, Sem.run_pure, Result.andThen_ok, Value.cells]
  exact hK _ _ (h _ _ (Lib.hid rfl) (Lib.hid rfl))
theorem letter_blk {w W : World} {g : Nat} {t : TypeId} {cs : Array Value} (hW : Hid (W = w.alloc (.cells cs t))) (hg : Hid (g = w.heap.size)) : Blk W g t cs := by
  rw [hW.out, hg.out]; exact Blk.new w t cs
theorem letter_below {B : Nat} {w0 w W : World} {o : Obj} (hW : Hid (W = w.alloc o)) (hb : Below B w0 w) (hB : B ≤ w.heap.size) : Below B w0 W := by
  rw [hW.out]; exact hb.alloc hB o
theorem letter_size {w W : World} {o : Obj} (hW : Hid (W = w.alloc o)) : W.heap.size = w.heap.size + 1 := by
  rw [hW.out]; simp
theorem quiet_same {P : Program} {f : FuncId} {args : Array Value} {w : World} {n : Nat} {v : Value} (h : Hid (∀ V, Calls P f args V fun e w' => e = .returned v ∧ V = w')) :
    Calls P f args (w.drewN n) fun e w'' => e = .returned v ∧ ∃ m, w'' = w.drewN m :=
  Calls.quiet_of_same ((h.out _).mono fun _ _ h => ⟨h.1, h.2.symm⟩)
end
section
open Go.RowKit
section
variable {P : Program} {Q : Exit → Act → World → Prop} {a : Act}
theorem wpList_wanted {ops : Array Oper} {o : Oper} {rest : List Oper} {w : World} (hw : Region.wanted o (yielded ops a.tmps) = true)
    (h : ∀ K : Act → World → Prop, (∀ a w, wpList P ops Q rest a w → K a w) → o.wp P a w K Q) : wpList P ops Q (o :: rest) a w :=
  wpList_step fun K hK => by rw [if_pos hw]; exact h K hK
theorem wpAny_tail {md : Region.Mode} {l : List Oper} {fuel : Nat} {listed : Array Bool} {w : World} (n : Nat) (hf : fuel = (l.drop n).length)
    (hB : Region.seqB md l.toArray (l.drop n).length n listed = true) (h : wpList P l.toArray Q (l.drop n) a w) : wpAny P md l.toArray Q fuel listed a w := by
  subst hf
  exact wpAny_of_seq (l.drop n) n listed a w (fun j => by simp [List.getElem?_drop]) hB h
end
end
end Go.Proofs.YtghenhacndaelaaGreat
