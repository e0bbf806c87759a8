/- Lemmas under the proofs of this place: Only, Law, SectPlain. No statement is proved here. -/
import Derived.Test.YtghenhacndaelaaBu00
import Derived.Test.YtghenhacndaelaaRows
import Derived.ProofKit
import Derived.OpenShut
import Derived.Laws.IdiomArrays
set_option linter.unusedSimpArgs false
set_option linter.unusedVariables false
namespace Go.Proofs.Ytghenhacndaelaa
section
open Go.RowKit
abbrev Only (w w' : World) (g : Nat) : Prop := w.grownBy w' (some g)
theorem only_trans {a b c : World} {g : Nat} (h : Only a b g) (k : Only b c g) : Only a c g :=
  ⟨k.os.trans h.os, k.tape.trans h.tape, k.output.trans h.output, Nat.le_trans h.size k.size, fun i hi hn => (k.block i (Nat.lt_of_lt_of_le hi h.size) hn).trans (h.block i hi hn)⟩
theorem only_refl (w : World) (g : Nat) : Only w w g := ⟨rfl, rfl, rfl, Nat.le_refl _, fun _ _ _ => rfl⟩
theorem only_set (w : World) (g i : Nat) (u : Value) : Only w (w.setCell ⟨g, i, none⟩ u) g :=
  ⟨rfl, rfl, rfl, by simp [World.setCell], fun k _ hk => heap_setCell_other w ⟨g, i, none⟩ k u (fun e => hk (by simp [e]))⟩
theorem only_below {a w : World} (h : Below a.heap.size a w) (g : Nat) : Only a w g := ⟨h.os, h.tape, h.output, h.size, fun i hi _ => h.block i hi⟩
theorem below_only {B g : Nat} {a w w' : World} (h : Below B a w) (k : Only w w' g) (hg : B ≤ g) (hB : B ≤ w.heap.size) : Below B a w' :=
  h.trans ⟨k.os, k.tape, k.output, k.size, fun i hi => k.block i (by omega) (by simp; omega)⟩
theorem only_alloc {a w : World} {g : Nat} (h : Only a w g) (o : Obj) : Only a (w.alloc o) g :=
  ⟨h.os, h.tape, h.output, Nat.le_trans h.size (by simp), fun i hi hne => (Below.heap_alloc w o i (Nat.lt_of_lt_of_le hi h.size)).trans (h.block i hi hne)⟩
theorem below_drew {B : Nat} {w w' : World} (h : Below B w.drew w') : Below B w w' := ⟨h.os, h.tape, h.output, h.size, h.block⟩
theorem Reads.only {w w' : World} {B size n g : Nat} {A : Option Addr} {xs : List Value} (h : Reads w B size A n xs) (hl : B ≤ w.heap.size) (ho : Only w w' g) (ha : ∀ ad, A = some ad → ad.block ≠ g) : Reads w' B size A n xs := by
  refine ⟨h.1, fun h0 => ?_⟩
  obtain ⟨ad, e, hb, hc⟩ := h.2 h0
  refine ⟨ad, e, hb, fun j u hu => ?_⟩
  have := ho.block ad.block (by omega) (by simp; exact ha ad e)
  have h1 := hc j u hu
  have eb : (ad.add j).block = ad.block := block_of_add _ _
  unfold World.cell? at h1 ⊢
  rw [eb, this]
  rw [eb] at h1
  exact h1
theorem Blk.only {w w' : World} {g k : Nat} {t : TypeId} {cs : Array Value} (h : Blk w g t cs) (ho : Only w w' k) (hg : g ≠ k) : Blk w' g t cs := by
  have := ho.block g h.lt (by simp; omega)
  unfold Blk at h ⊢
  rw [this]; exact h
end
section
open Go.ChangeShapes Go.WideShapes Go.ChangeAt Go.RowKit
theorem Try.own : ownKnob Try.prog.godebug = none := by kernel_rfl
theorem Try.laidOut : laidOutB Try.prog = true := by kernel_rfl
section
variable {H : Type} {enc : TypeId × Value → H} {P : Program}
theorem trodAll_stays (hl : laidOutB P = true) {W W' : World} {sp : Nat → Bool} : ∀ {ts : List TypeId} {vs : List Value} {ds : List (DataW H)} {ps : List MemPlace}, ts.all (fun t => P.readableRec t && decide (t < P.types.size)) = true →
    DataW.TrodAll enc P W 0 (fun _ => true) true ts vs ds ps → (∀ p ∈ ps, W.sameAt W' p) → (∀ p ∈ ps, sp p.block = true) → DataW.TrodAll enc P W' 0 sp true ts vs ds ps := by
  intro ts
  induction ts with
  | nil =>
    intro vs ds ps _ h _ _
    obtain ⟨rfl, rfl, rfl⟩ := trodAll_nil h
    exact trodAll_mk0
  | cons t ts ih =>
    intro vs ds ps hr h hs hp
    obtain ⟨v, vs', d, ds', p, q, rfl, rfl, rfl, h1, h2⟩ := trodAll_cons h
    simp only [List.all_cons, Bool.and_eq_true, decide_eq_true_eq] at hr
    obtain ⟨⟨hr1, hr2⟩, hr3⟩ := hr
    exact trodAll_cons_mk (WideElems.Trod_stays hl hr1 hr2 h1 (fun x hx => hs x (List.mem_append_left _ hx)) (fun x hx => hp x (List.mem_append_left _ hx)))
      (ih hr3 h2 (fun x hx => hs x (List.mem_append_right _ hx)) (fun x hx => hp x (List.mem_append_right _ hx)))
theorem law_post (hl : laidOutB P = true) {f : Func} {s : ChangeSpec} {W W' : World} {args : Array Value} {ds gs : List (DataW H)} {before : List MemPlace}
    (hW : DataW.Whole enc P f.params.toList s.vars false W args.toList ds gs before) (hv : s.vars = [])
    (hres : (s.fn H (ds ++ gs)).results = [.lit (.bool true)]) (hargs : (s.fn H (ds ++ gs)).args = ds) (hvs : (s.fn H (ds ++ gs)).vars = [])
    (hf : f.resultTypes = #[4]) (h4 : P.underlying 4 = some .bool) (hr : f.params.toList.all (fun t => P.readableRec t && decide (t < P.types.size)) = true)
    (hb : Below W.heap.size W W') : s.post enc P f false true false false W args (.bool true) W' := by
  have hlt : ∀ p ∈ before, p.block < W.heap.size := fun p hp => hW.lt p hp
  have hW' := hW
  obtain ⟨p, q, hA, hV, rfl, hfz, hnd⟩ := hW'
  rw [hv] at hV
  obtain ⟨rfl, rfl⟩ := trodVars_none hV
  have hsame : ∀ x ∈ p, W.sameAt W' x := fun x hx => hb.same (hlt x (List.mem_append_left _ hx))
  refine post_of_below (pa := p) (pv := []) hW (fun b sp hd => ?_) (fun sp hsp => ?_) (fun sp _ => ?_) rfl hb ?_
  · rw [hres, hf]
    exact trodAll_mk1 (shut_bool h4 true)
  · rw [hargs]
    exact trodAll_stays hl hr hA hsame (fun x hx => hsp x (List.mem_append_left _ hx))
  · rw [hv, hvs]
    exact rfl
  · exact ok_one hf rfl (okWide_bool_mk h4 true)
theorem open_bytes {W : World} {base : Nat} {t e : TypeId} {v : Value} {d : DataW H} {ps : List MemPlace} (ht : P.underlying t = some (.slice e)) (he : P.underlying e = some (.int .u8)) (hc : P.cellsOf e = 1)
    (hv : Value.okWide P W .any base t v) (h : DataW.Trod enc P W 0 (fun _ => true) true t v d ps) :
    ∃ (A : Option Addr) (L : List UInt8) (c : Nat), v = .slice A L.length c ∧ RB W W.heap.size A L ∧ L.length ≤ c ∧ c ≤ maxLen := by
  obtain ⟨a0, len, cap, rfl⟩ := okWide_slice ht hv
  obtain ⟨fuel, hf⟩ := h
  rcases open_ints ht he hc hf with ⟨hcs, hx⟩ | ⟨a, len', cap', zs, hcs, _, hl, hm, hz, hx, hcell, hwz⟩
  · simp [Value.cells] at hcs
    obtain ⟨rfl, rfl, rfl⟩ := hcs
    exact ⟨none, [], 0, rfl, RB.none_ _ _, Nat.le_refl _, Nat.zero_le _⟩
  · simp [Value.cells] at hcs
    obtain ⟨rfl, rfl, rfl⟩ := hcs
    simp only [if_true] at hz
    have hlen : (zs.take len).length = len := by rw [List.length_take]; omega
    refine ⟨some a, (zs.take len).map (fun z => UInt8.ofNat z.toNat), cap, by rw [List.length_map, hlen], ?_, by rw [List.length_map, hlen]; exact hl, hm⟩
    have hcells : cells ((zs.take len).map (fun z => UInt8.ofNat z.toNat)) = (zs.take len).map (Value.int .u8) := by
      unfold cells
      rw [List.map_map]
      apply List.map_congr_left
      intro z hz'
      have hw := hwz z (List.mem_of_mem_take hz')
      have hb : 0 ≤ z ∧ z ≤ 255 := by simpa [Lit.wf, IntKind.min, IntKind.max, IntKind.signed, IntKind.bits] using hw
      show Value.int .u8 _ = Value.int .u8 z
      rw [ofNat_toNat _ (by omega)]
      congr 1
      omega
    unfold RB
    rw [hcells]
    refine ⟨by simp, fun hn => ?_⟩
    simp only [List.length_map, hlen] at hn
    have h0 := hcell 0 (by omega)
    have hblk := World.block_lt_of_cell? W _ h0
    refine ⟨a, rfl, by rw [block_of_add] at hblk; exact hblk, fun j u hu => ?_⟩
    rw [List.getElem?_map, List.getElem?_take] at hu
    split at hu
    · rename_i hj
      rw [hcell j (by omega)]
      rw [List.getElem?_eq_getElem (by omega)] at hu
      simp only [Option.map_some, Option.some.injEq] at hu
      rw [← hu]
      simp [List.getD, List.getElem?_eq_getElem (show j < zs.length by omega)]
    · cases hu
def RI (w : World) (B : Nat) (A : Option Addr) (Z : List Int) : Prop :=
  0 < Z.length → ∃ b off, A = some ⟨b, off, none⟩ ∧ b < B ∧ ∀ k (hk : k < Z.length), w.cell? ⟨b, off + k, none⟩ = some (.int .i64 Z[k])
end
end
section
structure Sd where
  kind : Int
  epoch : Int
  number : Int
  left : Int
  data : List UInt8
instance : DecidableEq Sd := fun a b =>
  if h : a.kind = b.kind ∧ a.epoch = b.epoch ∧ a.number = b.number ∧ a.left = b.left ∧ a.data = b.data then
    .isTrue (by obtain ⟨h1, h2, h3, h4, h5⟩ := h; cases a; cases b; simp only at h1 h2 h3 h4 h5; subst h1 h2 h3 h4 h5; rfl)
  else .isFalse (fun e => h (by subst e; exact ⟨rfl, rfl, rfl, rfl, rfl⟩))
def Sd.zero : Sd := ⟨0, 0, 0, 0, []⟩
def Sd.may (s : Sd) : Bool := decide (1 ≤ s.kind) && (decide (s.kind ≤ 255) && (decide (0 ≤ s.epoch) && (decide (s.epoch ≤ 2147483647) && (decide (0 ≤ s.number) && (decide (s.number ≤ 2147483647) && (decide (0 ≤ s.left) && (decide (s.left ≤ 65535) && decide (s.data.length ≤ 48))))))))
theorem Sd.may_iff (s : Sd) : s.may = true ↔ 1 ≤ s.kind ∧ s.kind ≤ 255 ∧ 0 ≤ s.epoch ∧ s.epoch ≤ 2147483647 ∧ 0 ≤ s.number ∧ s.number ≤ 2147483647 ∧ 0 ≤ s.left ∧ s.left ≤ 65535 ∧ s.data.length ≤ 48 := by
  unfold Sd.may
  simp only [Bool.and_eq_true, decide_eq_true_eq]
def Sd.head (s : Sd) : List UInt8 := UInt8.ofNat s.kind.toNat :: UInt8.ofNat s.data.length :: (fixL 2 s.left.toNat ++ (fixL 4 s.epoch.toNat ++ fixL 4 s.number.toNat))
def Sd.body (s : Sd) : List UInt8 := s.head ++ (s.data ++ List.replicate (48 - s.data.length) 0)
def Sd.bytes (s : Sd) : List UInt8 := sealL s.body
theorem Sd.head_length (s : Sd) : s.head.length = 12 := by
  unfold Sd.head
  simp [fixL_length]
theorem Sd.body_length (s : Sd) (h : s.data.length ≤ 48) : s.body.length = 60 := by
  unfold Sd.body
  rw [List.length_append, List.length_append, List.length_replicate, Sd.head_length]
  omega
theorem Sd.bytes_length (s : Sd) (h : s.data.length ≤ 48) : s.bytes.length = 64 := by
  unfold Sd.bytes
  rw [sealL_length, Sd.body_length s h]
def secOf (c : List UInt8) : Sd := ⟨((c.getD 0 0).toNat : Int), (unfixL ((c.drop 4).take 4) : Int), (unfixL ((c.drop 8).take 4) : Int), (unfixL ((c.drop 2).take 2) : Int), (c.drop 12).take (c.getD 1 0).toNat⟩
theorem fixL_two (n : Nat) : ∃ a b, fixL 2 n = [a, b] := ⟨_, _, rfl⟩
theorem fixL_four (n : Nat) : ∃ a b c d, fixL 4 n = [a, b, c, d] := ⟨_, _, _, _, rfl⟩
theorem fix_unfix6 : ∀ (l : List UInt8), fixL l.length (unfixL l) = l
  | [] => rfl
  | x :: l => by
    have hx := x.toNat_lt
    show fixL (l.length + 1) (x.toNat + 256 * unfixL l) = x :: l
    have h1 : (x.toNat + 256 * unfixL l) % 256 = x.toNat := by omega
    have h2 : (x.toNat + 256 * unfixL l) / 256 = unfixL l := by omega
    rw [fixL, h1, h2, fix_unfix6 l, ofNat_byte]
theorem secOf_body (s : Sd) (h : s.may = true) : secOf s.body = s := by
  obtain ⟨h1, h2, h3, h4, h5, h6, h7, h8, h9⟩ := s.may_iff.1 h
  obtain ⟨k, e, n, l, D⟩ := s
  simp only at h1 h2 h3 h4 h5 h6 h7 h8 h9
  obtain ⟨x0, x1, hx⟩ := fixL_two l.toNat
  obtain ⟨y0, y1, y2, y3, hy⟩ := fixL_four e.toNat
  obtain ⟨z0, z1, z2, z3, hz⟩ := fixL_four n.toNat
  have ux := unfix_fix 2 l.toNat (by omega)
  have uy := unfix_fix 4 e.toNat (by omega)
  have uz := unfix_fix 4 n.toNat (by omega)
  rw [hx] at ux
  rw [hy] at uy
  rw [hz] at uz
  have hb : Sd.body ⟨k, e, n, l, D⟩ = UInt8.ofNat k.toNat :: UInt8.ofNat D.length :: x0 :: x1 :: y0 :: y1 :: y2 :: y3 :: z0 :: z1 :: z2 :: z3 :: (D ++ List.replicate (48 - D.length) 0) := by
    unfold Sd.body Sd.head
    simp only [hx, hy, hz]
    rfl
  rw [hb]
  unfold secOf
  have hk : (UInt8.ofNat k.toNat).toNat = k.toNat := ofNat_toNat _ (by omega)
  have hd : (UInt8.ofNat D.length).toNat = D.length := ofNat_toNat _ (by omega)
  simp only [List.getD_cons_zero, List.getD_cons_succ, List.drop_succ_cons, List.drop_zero, List.take_succ_cons, List.take_zero, hk, hd, ux, uy, uz, List.take_left']
  congr 1 <;> omega
structure Formed (c : List UInt8) : Prop where
  kind : 1 ≤ (c.getD 0 0).toNat
  len : (c.getD 1 0).toNat ≤ 48
  epoch : unfixL ((c.drop 4).take 4) ≤ 2147483647
  number : unfixL ((c.drop 8).take 4) ≤ 2147483647
  zero : c.drop (12 + (c.getD 1 0).toNat) = List.replicate (48 - (c.getD 1 0).toNat) 0
theorem body_secOf (c : List UInt8) (hl : c.length = 60) : ((secOf c).may = true ∧ (secOf c).body = c) ↔ Formed c := by
  match c, hl with
  | k :: m :: x0 :: x1 :: y0 :: y1 :: y2 :: y3 :: z0 :: z1 :: z2 :: z3 :: r, hl =>
    have hr : r.length = 48 := by simpa using hl
    have hk := k.toNat_lt
    have hm := m.toNat_lt
    have fx := fix_unfix6 [x0, x1]
    have fy := fix_unfix6 [y0, y1, y2, y3]
    have fz := fix_unfix6 [z0, z1, z2, z3]
    have lx := unfixL_lt [x0, x1]
    simp only [List.length_cons, List.length_nil, Nat.zero_add, Nat.reduceAdd] at fx fy fz lx
    have e0 : secOf (k :: m :: x0 :: x1 :: y0 :: y1 :: y2 :: y3 :: z0 :: z1 :: z2 :: z3 :: r) = ⟨(k.toNat : Int), (unfixL [y0, y1, y2, y3] : Int), (unfixL [z0, z1, z2, z3] : Int), (unfixL [x0, x1] : Int), r.take m.toNat⟩ := rfl
    have e1 : m.toNat ≤ 48 → Sd.body ⟨(k.toNat : Int), (unfixL [y0, y1, y2, y3] : Int), (unfixL [z0, z1, z2, z3] : Int), (unfixL [x0, x1] : Int), r.take m.toNat⟩ = k :: m :: x0 :: x1 :: y0 :: y1 :: y2 :: y3 :: z0 :: z1 :: z2 :: z3 :: (r.take m.toNat ++ List.replicate (48 - m.toNat) 0) := fun h48 => by
      unfold Sd.body Sd.head
      simp only [Int.toNat_natCast, fx, fy, fz, ofNat_byte, List.length_take, hr, Nat.min_eq_left h48]
      rfl
    rw [e0]
    constructor
    · rintro ⟨h1, h2⟩
      obtain ⟨a1, a2, a3, a4, a5, a6, a7, a8, a9⟩ := (Sd.may_iff _).1 h1
      simp only at a1 a2 a3 a4 a5 a6 a7 a8 a9
      have h48 : m.toNat ≤ 48 := by
        have h3 : (Sd.body ⟨(k.toNat : Int), (unfixL [y0, y1, y2, y3] : Int), (unfixL [z0, z1, z2, z3] : Int), (unfixL [x0, x1] : Int), r.take m.toNat⟩)[1]? = some m := by rw [h2]; rfl
        unfold Sd.body Sd.head at h3
        simp only [List.cons_append, List.getElem?_cons_succ, List.getElem?_cons_zero, Option.some.injEq] at h3
        have h4 : (UInt8.ofNat (r.take m.toNat).length).toNat = (r.take m.toNat).length := ofNat_toNat _ (by omega)
        rw [h3, List.length_take, hr] at h4
        omega
      rw [e1 h48] at h2
      simp only [List.cons.injEq, true_and] at h2
      refine ⟨by show 1 ≤ k.toNat; omega, h48, by show unfixL [y0, y1, y2, y3] ≤ _; omega, by show unfixL [z0, z1, z2, z3] ≤ _; omega, ?_⟩
      show List.drop (12 + m.toNat) _ = List.replicate (48 - m.toNat) 0
      rw [show 12 + m.toNat = m.toNat + 12 by omega]
      simp only [List.drop_succ_cons]
      have h5 : r = r.take m.toNat ++ r.drop m.toNat := (List.take_append_drop _ _).symm
      have h6 := h2.trans h5
      exact (List.append_cancel_left h6).symm
    · rintro ⟨b1, b2, b3, b4, b5⟩
      have c1 : 1 ≤ k.toNat := b1
      have c2 : m.toNat ≤ 48 := b2
      have c3 : unfixL [y0, y1, y2, y3] ≤ 2147483647 := b3
      have c4 : unfixL [z0, z1, z2, z3] ≤ 2147483647 := b4
      have c5 : List.drop (12 + m.toNat) (k :: m :: x0 :: x1 :: y0 :: y1 :: y2 :: y3 :: z0 :: z1 :: z2 :: z3 :: r) = List.replicate (48 - m.toNat) 0 := b5
      rw [show 12 + m.toNat = m.toNat + 12 by omega] at c5
      simp only [List.drop_succ_cons] at c5
      refine ⟨(Sd.may_iff _).2 ⟨?_, ?_, ?_, ?_, ?_, ?_, ?_, ?_, ?_⟩, ?_⟩
      · show (1 : Int) ≤ (k.toNat : Int); omega
      · show (k.toNat : Int) ≤ 255; omega
      · show (0 : Int) ≤ (unfixL [y0, y1, y2, y3] : Int); omega
      · show (unfixL [y0, y1, y2, y3] : Int) ≤ 2147483647; omega
      · show (0 : Int) ≤ (unfixL [z0, z1, z2, z3] : Int); omega
      · show (unfixL [z0, z1, z2, z3] : Int) ≤ 2147483647; omega
      · show (0 : Int) ≤ (unfixL [x0, x1] : Int); omega
      · show (unfixL [x0, x1] : Int) ≤ 65535
        have : (256 : Nat) ^ 2 = 65536 := rfl
        omega
      · show (r.take m.toNat).length ≤ 48
        rw [List.length_take]; omega
      · rw [e1 c2, ← c5, List.take_append_drop]
def getS (b : List UInt8) : Sd × Int :=
  if b.length ≠ 64 then (.zero, 11) else
  match openL b with
  | none => (.zero, 12)
  | some c => if (secOf c).may = true ∧ (secOf c).body = c then (secOf c, 0) else (.zero, 5)
theorem getS_size {b : List UInt8} (h : b.length ≠ 64) : getS b = (.zero, 11) := by unfold getS; rw [if_pos h]
theorem getS_sum {b : List UInt8} (h : b.length = 64) (ho : openL b = none) : getS b = (.zero, 12) := by unfold getS; rw [if_neg (by omega), ho]
theorem getS_form {b c : List UInt8} (h : b.length = 64) (ho : openL b = some c) (hf : ¬ Formed c) : getS b = (.zero, 5) := by
  have hl := (openL_some ho).2
  unfold getS
  rw [if_neg (by omega), ho]
  simp only
  rw [if_neg (fun hh => hf ((body_secOf c (by omega)).1 hh))]
theorem getS_ok {b c : List UInt8} (h : b.length = 64) (ho : openL b = some c) (hf : Formed c) : getS b = (secOf c, 0) := by
  have hl := (openL_some ho).2
  unfold getS
  rw [if_neg (by omega), ho]
  simp only
  rw [if_pos ((body_secOf c (by omega)).2 hf)]
theorem getS_put (s : Sd) (h : s.may = true) : getS s.bytes = (s, 0) := by
  have h48 := ((s.may_iff).1 h).2.2.2.2.2.2.2.2
  have h1 := secOf_body s h
  rw [getS_ok (c := s.body) (Sd.bytes_length s h48) (open_seal _) ((body_secOf _ (Sd.body_length s h48)).1 ⟨by rw [h1]; exact h, by rw [h1]⟩), h1]
theorem getS_bytes {b : List UInt8} (h : (getS b).2 = 0) : (getS b).1.may = true ∧ (getS b).1.bytes = b := by
  by_cases h64 : b.length = 64
  · cases ho : openL b with
    | none => rw [getS_sum h64 ho] at h; simp at h
    | some c =>
      have hs := openL_some ho
      by_cases hf : Formed c
      · rw [getS_ok h64 ho hf]
        obtain ⟨h1, h2⟩ := (body_secOf c (by omega)).2 hf
        refine ⟨h1, ?_⟩
        show sealL (secOf c).body = b
        rw [h2, hs.1]
      · rw [getS_form h64 ho hf] at h; simp at h
  · rw [getS_size h64] at h; simp at h
def needN (n : Nat) : Nat := (n + 47) / 48
def Sd.part (s : Sd) (t : List UInt8) (n i : Nat) : Sd := ⟨if i = 0 then s.kind else s.kind + 1, s.epoch, s.number + (i : Int), ((n - 1 - i : Nat) : Int), (t.drop (48 * i)).take 48⟩
def splitS (s : Sd) (t : List UInt8) : List Sd × Int :=
  if needN t.length = 0 then ([], 1) else if 65536 < needN t.length then ([], 3) else
  if (List.range (needN t.length)).all (fun i => (s.part t (needN t.length) i).may) = true then ((List.range (needN t.length)).map (s.part t (needN t.length)), 0) else ([], 1)
theorem parts_data (t : List UInt8) : ∀ k, 48 * k ≤ t.length + 47 → (List.range k).flatMap (fun i => (t.drop (48 * i)).take 48) = t.take (48 * k)
  | 0, _ => by simp
  | k + 1, h => by
    rw [List.range_succ, List.flatMap_append, parts_data t k (by omega)]
    simp only [List.flatMap_cons, List.flatMap_nil, List.append_nil]
    rw [show 48 * (k + 1) = 48 * k + 48 by omega, List.take_add]
theorem split_text (s : Sd) (t : List UInt8) (n m : Nat) (hn : n = needN t.length) : ((List.range n).map (s.part t m)).flatMap (·.data) = t := by
  rw [List.flatMap_map]
  show (List.range n).flatMap (fun i => (t.drop (48 * i)).take 48) = t
  have h1 : needN t.length = (t.length + 47) / 48 := rfl
  rw [parts_data t n (by omega)]
  exact List.take_of_length_le (by omega)
end
end Go.Proofs.Ytghenhacndaelaa
