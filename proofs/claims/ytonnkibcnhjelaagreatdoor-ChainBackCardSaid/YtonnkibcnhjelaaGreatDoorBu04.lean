/- Lemmas under the proofs of this place: IntsEq, CellPlain, Mem, Foot. No statement is proved here. -/
import Derived.Test.YtonnkibcnhjelaaGreatDoorBu02
import Derived.Test.YtonnkibcnhjelaaGreatDoorRows
import Derived.Test.YtonnkibcnhjelaaGreatDoorBu00
import Derived.Deep.QuietTactic
import Derived.BigQuiet
import Derived.Lib.Hide
import Derived.WalkKit
import Derived.WalkSpells
import Derived.WalkLawsBesides
import Derived.Laws.CopyOwn
import Derived.Still
import Derived.Lib.Index
section
set_option linter.unusedVariables false
namespace Go.Proofs.YtonnkibcnhjelaaGreatDoor
open Go.RowKit
set_option maxRecDepth 100000 in
set_option maxHeartbeats 1000000 in
theorem intsq_any (Z : List Int) (A C : Option Addr) (n c d B : Nat) (w : World) (HN : Hid (n = Z.length)) (hr : RI w B A Z) (hr2 : RI w B C Z) (hn : n ≤ 1000000) :
    Calls Tryz.prog 17 #[.slice A n c, .slice C n d] w fun e w' => e = .returned (.bool true) ∧ Below w.heap.size w w' := by
  have HR := Lib.hid hr
  have HR2 := Lib.hid hr2
  clear hr hr2
  go_enter Tryz.func17, Tryz.ntmps17
  go_wp2
  go_loopw [5] (fun i wr => ∃ k : Nat, k ≤ n ∧ i = .int .i64 (k : Int) ∧ Hid (∀ p, wr.cell? p = w.cell? p) ∧ Below w.heap.size w wr) (fun i _ => n - (intOf i).toNat)
  case atStart => exact ⟨0, by omega, rfl, fun _ => rfl, Below.refl _ _⟩
  case round =>
    obtain ⟨k, hk, rfl, hw, hb⟩ := hrel
    by_cases hlt : k < n
    · have hkL : k < Z.length := by have := HN.out; omega
      obtain ⟨b, off, rfl, _, hc⟩ := HR.out (by omega)
      obtain ⟨b2, off2, rfl, _, hc2⟩ := HR2.out (by omega)
      obtain ⟨s, hs⟩ : ∃ s, s = Z[k] := ⟨_, rfl⟩
      have hck := hc k hkL
      have hck2 := hc2 k hkL
      rw [← hs, ← hw.out] at hck
      rw [← hs, ← hw.out] at hck2
      have u0 : (0 : Int) ≤ (k : Int) := by omega
      have u1 : (k : Int) < (n : Int) := by omega
      clear hs hc hc2 HR HR2 hkL
      go_wp2
      go_quiet (fail)
      go_wp2
      refine ⟨⟨k + 1, by omega, by go_num, fun p => hw.out p, ⟨hb.os, hb.tape, hb.output, hb.size, hb.block⟩⟩, ?_⟩
      simp [intOf]; omega
    · clear HR HR2
      go_wp2
      go_ret
      exact ⟨rfl, hb⟩
end Go.Proofs.YtonnkibcnhjelaaGreatDoor
end
section
set_option linter.unusedVariables false
namespace Go.Proofs.YtonnkibcnhjelaaGreatDoor
structure Ce where
  owner : Int
  number : Int
  next : Int
  data : List UInt8
instance : DecidableEq Ce := fun a b =>
  if h : a.owner = b.owner ∧ a.number = b.number ∧ a.next = b.next ∧ a.data = b.data then
    .isTrue (by obtain ⟨h1, h2, h3, h4⟩ := h; cases a; cases b; simp only at h1 h2 h3 h4; subst h1 h2 h3 h4; rfl)
  else .isFalse (fun e => h (by subst e; exact ⟨rfl, rfl, rfl, rfl⟩))
def Ce.zero : Ce := ⟨0, 0, 0, []⟩
def Ce.may (s : Ce) : Bool := decide (1 ≤ s.owner) && (decide (s.owner ≤ 2147483647) && (decide (0 ≤ s.number) && (decide (s.number ≤ 65535) && (decide (0 ≤ s.next) && (decide (s.next ≤ 65535) && (decide (1 ≤ s.data.length) && decide (s.data.length ≤ 242)))))))
theorem Ce.may_iff (s : Ce) : s.may = true ↔ 1 ≤ s.owner ∧ s.owner ≤ 2147483647 ∧ 0 ≤ s.number ∧ s.number ≤ 65535 ∧ 0 ≤ s.next ∧ s.next ≤ 65535 ∧ 1 ≤ s.data.length ∧ s.data.length ≤ 242 := by
  unfold Ce.may
  simp only [Bool.and_eq_true, decide_eq_true_eq]
def Ce.head (s : Ce) : List UInt8 := fixL 4 s.owner.toNat ++ (fixL 2 s.number.toNat ++ (fixL 2 s.next.toNat ++ fixL 2 s.data.length))
def Ce.body (s : Ce) : List UInt8 := s.head ++ (s.data ++ List.replicate (242 - s.data.length) 0)
def Ce.bytes (s : Ce) : List UInt8 := sealL s.body
theorem Ce.head_length (s : Ce) : s.head.length = 10 := by
  unfold Ce.head
  simp [fixL_length]
theorem Ce.body_length (s : Ce) (h : s.data.length ≤ 242) : s.body.length = 252 := by
  unfold Ce.body
  rw [List.length_append, List.length_append, List.length_replicate, Ce.head_length]
  omega
theorem Ce.bytes_length (s : Ce) (h : s.data.length ≤ 242) : s.bytes.length = 256 := by
  unfold Ce.bytes
  rw [sealL_length, Ce.body_length s h]
def cellOf (c : List UInt8) : Ce := ⟨(unfixL (c.take 4) : Int), (unfixL ((c.drop 4).take 2) : Int), (unfixL ((c.drop 6).take 2) : Int), (c.drop 10).take (unfixL ((c.drop 8).take 2))⟩
theorem cellOf_body (s : Ce) (h : s.may = true) : cellOf s.body = s := by
  obtain ⟨h1, h2, h3, h4, h5, h6, h7, h8⟩ := s.may_iff.1 h
  obtain ⟨o, n, x, D⟩ := s
  simp only at h1 h2 h3 h4 h5 h6 h7 h8
  obtain ⟨a0, a1, a2, a3, ha⟩ := fixL_four o.toNat
  obtain ⟨b0, b1, hb⟩ := fixL_two n.toNat
  obtain ⟨c0, c1, hc⟩ := fixL_two x.toNat
  obtain ⟨d0, d1, hd⟩ := fixL_two D.length
  have ua := unfix_fix 4 o.toNat (by omega)
  have ub := unfix_fix 2 n.toNat (by omega)
  have uc := unfix_fix 2 x.toNat (by omega)
  have ud := unfix_fix 2 D.length (by omega)
  rw [ha] at ua
  rw [hb] at ub
  rw [hc] at uc
  rw [hd] at ud
  have he : Ce.body ⟨o, n, x, D⟩ = a0 :: a1 :: a2 :: a3 :: b0 :: b1 :: c0 :: c1 :: d0 :: d1 :: (D ++ List.replicate (242 - D.length) 0) := by
    unfold Ce.body Ce.head
    simp only [ha, hb, hc, hd]
    rfl
  rw [he]
  unfold cellOf
  simp only [List.drop_succ_cons, List.drop_zero, List.take_succ_cons, List.take_zero, ua, ub, uc, ud, List.take_left']
  congr 1 <;> omega
structure FormedC (c : List UInt8) : Prop where
  owner : 1 ≤ unfixL (c.take 4)
  most : unfixL (c.take 4) ≤ 2147483647
  some_ : 1 ≤ unfixL ((c.drop 8).take 2)
  len : unfixL ((c.drop 8).take 2) ≤ 242
  zero : c.drop (10 + unfixL ((c.drop 8).take 2)) = List.replicate (242 - unfixL ((c.drop 8).take 2)) 0
theorem body_cellOf (c : List UInt8) (hl : c.length = 252) : ((cellOf c).may = true ∧ (cellOf c).body = c) ↔ FormedC c := by
  match c, hl with
  | a0 :: a1 :: a2 :: a3 :: b0 :: b1 :: c0 :: c1 :: d0 :: d1 :: r, hl =>
    have hr : r.length = 242 := by simpa using hl
    have fa := fix_unfix6 [a0, a1, a2, a3]
    have fb := fix_unfix6 [b0, b1]
    have fc := fix_unfix6 [c0, c1]
    have fd := fix_unfix6 [d0, d1]
    have lb := unfixL_lt [b0, b1]
    have lc := unfixL_lt [c0, c1]
    simp only [List.length_cons, List.length_nil, Nat.zero_add, Nat.reduceAdd] at fa fb fc fd lb lc
    have p2 : (256 : Nat) ^ 2 = 65536 := rfl
    obtain ⟨m, hm⟩ : ∃ m, m = unfixL [d0, d1] := ⟨_, rfl⟩
    have e0 : cellOf (a0 :: a1 :: a2 :: a3 :: b0 :: b1 :: c0 :: c1 :: d0 :: d1 :: r) = ⟨(unfixL [a0, a1, a2, a3] : Int), (unfixL [b0, b1] : Int), (unfixL [c0, c1] : Int), r.take m⟩ := by rw [hm]; rfl
    have e1 : m ≤ 242 → Ce.body ⟨(unfixL [a0, a1, a2, a3] : Int), (unfixL [b0, b1] : Int), (unfixL [c0, c1] : Int), r.take m⟩ = a0 :: a1 :: a2 :: a3 :: b0 :: b1 :: c0 :: c1 :: d0 :: d1 :: (r.take m ++ List.replicate (242 - m) 0) := fun h2 => by
      unfold Ce.body Ce.head
      simp only [Int.toNat_natCast, fa, fb, fc, List.length_take, hr, Nat.min_eq_left h2]
      rw [hm, fd]
      rfl
    rw [e0]
    constructor
    · rintro ⟨h1, h2⟩
      obtain ⟨x1, x2, x3, x4, x5, x6, x7, x8⟩ := (Ce.may_iff _).1 h1
      simp only [List.length_take, hr] at x1 x2 x3 x4 x5 x6 x7 x8
      have h242 : m ≤ 242 := by
        have h3 : ((Ce.body ⟨(unfixL [a0, a1, a2, a3] : Int), (unfixL [b0, b1] : Int), (unfixL [c0, c1] : Int), r.take m⟩).drop 8).take 2 = [d0, d1] := by rw [h2]; rfl
        obtain ⟨y0, y1, hy⟩ := fixL_two (r.take m).length
        unfold Ce.body Ce.head at h3
        simp only [Int.toNat_natCast, fa, fb, fc, hy] at h3
        have h4 : [y0, y1] = [d0, d1] := h3
        have h5 := unfix_fix 2 (r.take m).length (by rw [List.length_take, hr]; omega)
        rw [hy, h4, ← hm, List.length_take, hr] at h5
        omega
      rw [e1 h242] at h2
      simp only [List.cons.injEq, true_and] at h2
      have q1 : 1 ≤ m := by omega
      refine ⟨by show 1 ≤ unfixL [a0, a1, a2, a3]; omega, by show unfixL [a0, a1, a2, a3] ≤ _; omega, by show 1 ≤ unfixL [d0, d1]; omega, by show unfixL [d0, d1] ≤ _; omega, ?_⟩
      show List.drop (10 + unfixL [d0, d1]) _ = List.replicate (242 - unfixL [d0, d1]) 0
      rw [← hm, show 10 + m = m + 10 by omega]
      simp only [List.drop_succ_cons]
      have h5 : r = r.take m ++ r.drop m := (List.take_append_drop _ _).symm
      have h6 := h2.trans h5
      exact (List.append_cancel_left h6).symm
    · rintro ⟨b1', b2', b3', b4', b5'⟩
      have c1' : 1 ≤ unfixL [a0, a1, a2, a3] := b1'
      have c2' : unfixL [a0, a1, a2, a3] ≤ 2147483647 := b2'
      have c3' : 1 ≤ unfixL [d0, d1] := b3'
      have c4' : unfixL [d0, d1] ≤ 242 := b4'
      have c5' : List.drop (10 + unfixL [d0, d1]) (a0 :: a1 :: a2 :: a3 :: b0 :: b1 :: c0 :: c1 :: d0 :: d1 :: r) = List.replicate (242 - unfixL [d0, d1]) 0 := b5'
      rw [← hm] at c3' c4' c5'
      rw [show 10 + m = m + 10 by omega] at c5'
      simp only [List.drop_succ_cons] at c5'
      refine ⟨(Ce.may_iff _).2 ⟨?_, ?_, ?_, ?_, ?_, ?_, ?_, ?_⟩, ?_⟩
      · show (1 : Int) ≤ (unfixL [a0, a1, a2, a3] : Int); omega
      · show (unfixL [a0, a1, a2, a3] : Int) ≤ 2147483647; omega
      · show (0 : Int) ≤ (unfixL [b0, b1] : Int); omega
      · show (unfixL [b0, b1] : Int) ≤ 65535; omega
      · show (0 : Int) ≤ (unfixL [c0, c1] : Int); omega
      · show (unfixL [c0, c1] : Int) ≤ 65535; omega
      · show 1 ≤ (r.take m).length
        rw [List.length_take]; omega
      · show (r.take m).length ≤ 242
        rw [List.length_take]; omega
      · rw [e1 c4', ← c5', List.take_append_drop]
def getC (b : List UInt8) : Ce × Int :=
  if b.length ≠ 256 then (.zero, 11) else
  match openL b with
  | none => (.zero, 12)
  | some c => if (cellOf c).may = true ∧ (cellOf c).body = c then (cellOf c, 0) else (.zero, 5)
theorem getC_size {b : List UInt8} (h : b.length ≠ 256) : getC b = (.zero, 11) := by unfold getC; rw [if_pos h]
theorem getC_sum {b : List UInt8} (h : b.length = 256) (ho : openL b = none) : getC b = (.zero, 12) := by unfold getC; rw [if_neg (by omega), ho]
theorem getC_form {b c : List UInt8} (h : b.length = 256) (ho : openL b = some c) (hf : ¬ FormedC c) : getC b = (.zero, 5) := by
  have hl := (openL_some ho).2
  unfold getC
  rw [if_neg (by omega), ho]
  simp only
  rw [if_neg (fun hh => hf ((body_cellOf c (by omega)).1 hh))]
theorem getC_ok {b c : List UInt8} (h : b.length = 256) (ho : openL b = some c) (hf : FormedC c) : getC b = (cellOf c, 0) := by
  have hl := (openL_some ho).2
  unfold getC
  rw [if_neg (by omega), ho]
  simp only
  rw [if_pos ((body_cellOf c (by omega)).2 hf)]
theorem getC_put (s : Ce) (h : s.may = true) : getC s.bytes = (s, 0) := by
  have h2 := ((s.may_iff).1 h).2.2.2.2.2.2.2
  have h1 := cellOf_body s h
  rw [getC_ok (c := s.body) (Ce.bytes_length s h2) (open_seal _) ((body_cellOf _ (Ce.body_length s h2)).1 ⟨by rw [h1]; exact h, by rw [h1]⟩), h1]
theorem getC_bytes {b : List UInt8} (h : (getC b).2 = 0) : (getC b).1.may = true ∧ (getC b).1.bytes = b := by
  by_cases h64 : b.length = 256
  · cases ho : openL b with
    | none => rw [getC_sum h64 ho] at h; simp at h
    | some c =>
      have hs := openL_some ho
      by_cases hf : FormedC c
      · rw [getC_ok h64 ho hf]
        obtain ⟨h1, h2⟩ := (body_cellOf c (by omega)).2 hf
        refine ⟨h1, ?_⟩
        show sealL (cellOf c).body = b
        rw [h2, hs.1]
      · rw [getC_form h64 ho hf] at h; simp at h
  · rw [getC_size h64] at h; simp at h
def needC (n : Nat) : Nat := (n + 241) / 242
def cutAt (o : Int) (ps : List Int) (t : List UInt8) (i : Nat) : Ce := ⟨o, (i : Int), ps.getD (i + 1) 0, (t.drop (242 * i)).take 242⟩
def placeOk (p : Int) : Bool := decide (1 ≤ p) && decide (p ≤ 65535)
def cutOk (o : Int) (ps : List Int) (t : List UInt8) (i : Nat) : Bool := (cutAt o ps t i).may && placeOk (ps.getD i 0)
def cutC (o : Int) (ps : List Int) (t : List UInt8) : List Ce × Int :=
  if 262144 < t.length then ([], 3) else if ps.length ≠ needC t.length ∨ ps.length = 0 then ([], 1) else
  if (List.range ps.length).all (cutOk o ps t) = true then ((List.range ps.length).map (cutAt o ps t), 0) else ([], 1)
def joinOk (o : Int) (n i : Nat) (c : Ce) : Bool :=
  c.may && decide (c.owner = o) && decide (c.number = (i : Int)) && (if i + 1 = n then decide (c.next = 0) else decide (c.next ≠ 0) && decide (c.data.length = 242))
def joinC (l : List Ce) : Option (List UInt8) :=
  match l with
  | [] => none
  | c :: r => if (List.range (r.length + 1)).all (fun i => joinOk c.owner (r.length + 1) i ((c :: r).getD i .zero)) = true then some ((c :: r).flatMap (·.data)) else none
theorem cuts_data (t : List UInt8) : ∀ k, 242 * k ≤ t.length + 241 → (List.range k).flatMap (fun i => (t.drop (242 * i)).take 242) = t.take (242 * k)
  | 0, _ => by simp
  | k + 1, h => by
    rw [List.range_succ, List.flatMap_append, cuts_data t k (by omega)]
    simp only [List.flatMap_cons, List.flatMap_nil, List.append_nil]
    rw [show 242 * (k + 1) = 242 * k + 242 by omega, List.take_add]
theorem cut_text (o : Int) (ps : List Int) (t : List UInt8) (n : Nat) (hn : n = needC t.length) : ((List.range n).map (cutAt o ps t)).flatMap (·.data) = t := by
  rw [List.flatMap_map]
  show (List.range n).flatMap (fun i => (t.drop (242 * i)).take 242) = t
  have h1 : needC t.length = (t.length + 241) / 242 := rfl
  rw [cuts_data t n (by omega)]
  exact List.take_of_length_le (by omega)
theorem cutC_inv {o : Int} {ps : List Int} {t : List UInt8} (h : (cutC o ps t).2 = 0) : t.length ≤ 262144 ∧ ps.length = needC t.length ∧ 0 < ps.length ∧ (∀ i, i < ps.length → cutOk o ps t i = true) ∧ (cutC o ps t).1 = (List.range ps.length).map (cutAt o ps t) := by
  unfold cutC at h ⊢
  split at h
  · simp at h
  · rename_i h1
    rw [if_neg h1]
    split at h
    · simp at h
    · rename_i h2
      rw [if_neg h2]
      split at h
      · rename_i h3
        rw [if_pos h3]
        rw [List.all_eq_true] at h3
        exact ⟨by omega, by omega, by omega, fun i hi => h3 i (List.mem_range.2 hi), rfl⟩
      · simp at h
theorem join_cut {o : Int} {ps : List Int} {t : List UInt8} (h : (cutC o ps t).2 = 0) : joinC (cutC o ps t).1 = some t := by
  obtain ⟨h1, h2, h3, h4, h5⟩ := cutC_inv h
  rw [h5]
  have hn : needC t.length = (t.length + 241) / 242 := rfl
  obtain ⟨n, hpn⟩ : ∃ n, ps.length = n + 1 := ⟨ps.length - 1, by omega⟩
  rw [hpn]
  obtain ⟨c, r, hcr⟩ : ∃ c r, (List.range (n + 1)).map (cutAt o ps t) = c :: r := by
    rw [List.range_succ_eq_map, List.map_cons]; exact ⟨_, _, rfl⟩
  have hlen : r.length = n := by
    have := congrArg List.length hcr
    simpa using this.symm
  have hc0 : c.owner = o := by
    have := congrArg (fun l => l.head?) hcr
    simp [List.range_succ_eq_map] at this
    rw [← this]; rfl
  rw [hcr]
  unfold joinC
  simp only
  rw [if_pos, ← hcr, cut_text o ps t (n + 1) (by omega)]
  rw [List.all_eq_true]
  intro i hi
  rw [List.mem_range, hlen] at hi
  have hg : (c :: r).getD i .zero = cutAt o ps t i := by
    rw [← hcr, List.getD_eq_getElem?_getD, List.getElem?_map, List.getElem?_range hi]; rfl
  rw [hg, hlen, hc0]
  have hk := h4 i (by omega)
  unfold cutOk at hk
  rw [Bool.and_eq_true] at hk
  unfold joinOk
  rw [hk.1]
  have hD : (cutAt o ps t i).data.length = min 242 (t.length - 242 * i) := by
    show ((t.drop (242 * i)).take 242).length = _
    rw [List.length_take, List.length_drop]
  by_cases hl : i + 1 = n + 1
  · rw [if_pos hl]
    have e : (cutAt o ps t i).next = 0 := by
      show ps.getD (i + 1) 0 = 0
      rw [List.getD_eq_getElem?_getD, List.getElem?_eq_none (by omega)]; rfl
    rw [decide_eq_true e]
    have e1 : (cutAt o ps t i).owner = o := rfl
    have e2 : (cutAt o ps t i).number = (i : Int) := rfl
    rw [decide_eq_true e1, decide_eq_true e2]; rfl
  · rw [if_neg hl]
    have hk2 := h4 (i + 1) (by omega)
    unfold cutOk placeOk at hk2
    simp only [Bool.and_eq_true, decide_eq_true_eq] at hk2
    have e : (cutAt o ps t i).next ≠ 0 := by
      show ps.getD (i + 1) 0 ≠ 0
      have := hk2.2.1
      omega
    have e3 : (cutAt o ps t i).data.length = 242 := by rw [hD]; omega
    have e1 : (cutAt o ps t i).owner = o := rfl
    have e2 : (cutAt o ps t i).number = (i : Int) := rfl
    rw [decide_eq_true e, decide_eq_true e1, decide_eq_true e2, decide_eq_true e3]; rfl
end Go.Proofs.YtonnkibcnhjelaaGreatDoor
end
section
set_option linter.unusedVariables false
set_option linter.unusedSimpArgs false
namespace Go.Proofs.YtonnkibcnhjelaaGreatDoor
open Go.RowKit
theorem Tryz.info5 : (Tryz.prog.info? 5).map (fun i => (i.zero, i.size, i.bytes)) = some (some (.int .u8 0), 1, 1) := by kernel_rfl
def Own (w : World) (base : Nat) (A : Option Addr) (L : List UInt8) (c : Nat) : Prop := w.ownsRow base 5 1 (.slice A L.length c) L.length (cells L)
def GivesBytes (L : List UInt8) (w : World) (e : Ending) (w' : World) : Prop :=
  ∃ A c, e = .returned (.tuple #[.slice A L.length c, .int .i64 0]) ∧ Own w' w.heap.size A L c ∧ Below w.heap.size w w'
theorem own_form {w : World} {base : Nat} {v : Value} {n : Nat} {xs : List Value} (h : w.ownsRow base 5 1 v n xs) : ∃ A c, v = .slice A n c := by
  rcases h.2 with ⟨rfl, rfl⟩ | ⟨g, cap, cur, rfl, _⟩
  · exact ⟨none, 0, rfl⟩
  · exact ⟨_, _, rfl⟩
theorem append_byte {ops : Array Oper} {rest : List Oper} {o : Oper} {a : Act} {Q : Exit → Act → World → Prop} (hgd : o.guard = none) (s x : Operand)
    (ho : o.op = .call { callee := .builtin .append, args := #[s, x], argTypes := #[39, 39] })
    {B : Nat} {w0 wr : World} {v : Value} {P : List UInt8} {z : Int} (b : UInt8) (hs : a.eval s = v) (hown : wr.ownsRow B 5 1 v P.length (cells P)) (hb : Below B w0 wr) (hB : B ≤ w0.heap.size)
    (hz : z = (b.toNat : Int)) (hx : a.eval x = .slice (some ⟨wr.heap.size, 0, none⟩) 1 1) (hlen : P.length + 1 ≤ 1048576)
    (h : ∀ v' w1, w1.ownsRow B 5 1 v' (P ++ [b]).length (cells (P ++ [b])) → Below B w0 w1 → wpList Tryz.prog ops Q rest (a.put o.dst v') w1) :
    wpList Tryz.prog ops Q (o :: rest) a (wr.alloc (.cells #[.int .u8 z] 5)) := by
  obtain ⟨i0, hi0, hz0, hz1, hz2⟩ := info_parts Tryz.info5
  subst hz
  refine wpList_append_own _ hgd s x 39 ho B 5 i0 _ 1 1 Tryz.underlying39 hi0 hz0 hz1 hz2 rfl (by decide) v P.length (cells P) hs (hown.alloc _) ⟨wr.heap.size, 0, none⟩ 1 1 (cells [b]) hx rfl (cell_one_new _ _ _) (cells_one _)
    (by unfold maxLen; omega) (by omega) (by have := hb.size; simp; omega) ?_
  intro v' w1 hown' hgrow _
  have e : (P ++ [b]).length = P.length + 1 := by simp
  refine h v' w1 (by rw [e, cells_append]; exact hown') ?_
  exact ((hb.alloc (Nat.le_trans hB hb.size) _)).grown hgrow (by have := hb.size; simp; omega) (fun k hk => (hown.lt k hk).1)
theorem or_shl (acc y e : Nat) (ha : acc < 2 ^ e) (hf : acc + y * 2 ^ e < 18446744073709551616) :
    bits .or .u64 (acc : Int) (IntKind.u64.wrap ((y : Int) * 2 ^ e)) = ((acc + y * 2 ^ e : Nat) : Int) := by
  have h1 : IntKind.u64.wrap ((y : Int) * 2 ^ e) = ((y * 2 ^ e : Nat) : Int) := by
    rw [IntKind.wrap_u64]
    have hc : ((y : Int) * 2 ^ e) = ((y * 2 ^ e : Nat) : Int) := by simp
    rw [hc]
    exact Int.emod_eq_of_lt (by omega) (by omega)
  rw [h1, u64_or_nat _ _ (by omega) (by omega)]
  have h2 := Nat.two_pow_add_eq_or_of_lt ha y
  rw [Nat.or_comm, Nat.mul_comm y, ← h2, Nat.add_comm]
theorem pow_256 (k : Nat) : (256 : Nat) ^ k = 2 ^ (8 * k) := by rw [Nat.pow_mul]
theorem run_str {P : Program} {w : World} {B : Nat} {A : Option Addr} {L : List UInt8} (src e dst : TypeId) (hs : P.underlying src = some (.slice e)) (he : P.underlying e = some (.int .u8)) (hd : P.underlying dst = some .string)
    (h : RB w B A L) (n c : Nat) (hn : n = L.length) : (convert src dst (.slice A n c)).run P w = .ok (.string (text L)) w := by
  subst hn
  rcases A with _ | ad
  · have hL : L = [] := by
      rcases L with _ | ⟨x, L⟩
      · rfl
      · obtain ⟨ad, h, _⟩ := h.2 (by simp)
        cases h
    subst hL
    exact run_convert_bytes_nil w src e hs he 0 c dst hd
  · have hl : (loadCells ad L.length).run P w = .ok ((L.map fun b => (b.toNat : Int)).map (Value.int .u8)).toArray w := by
      have := run_loadCells_list (P := P) w ad (cells L) (fun j v hj => by
        rcases Nat.eq_zero_or_pos L.length with h0 | h0
        · have hL : L = [] := List.eq_nil_of_length_eq_zero h0
          subst hL; simp [cells] at hj
        · obtain ⟨ad', h1, _, hc⟩ := h.2 h0
          injection h1 with h1
          subst h1
          exact hc j v hj)
      have e : (L.map fun b => (b.toNat : Int)).map (Value.int .u8) = cells L := by simp [cells]
      rw [e]
      simpa [cells_length] using this
    rw [run_convert_bytes_string w src dst e _ _ c hs he hd, run_bytesToString w ad _ c _ hl, foldl_push_bytes]
    have e2 : (L.map fun b => (b.toNat : Int)).map (fun n => UInt8.ofNat n.toNat) = L := by
      rw [List.map_map]
      conv => rhs; rw [← List.map_id L]
      apply List.map_congr_left
      intro b _
      simp
    rw [e2]
    simp [text, ByteArray.empty, ByteArray.emptyWithCapacity]
    rfl
theorem own_rb {w : World} {base : Nat} {A : Option Addr} {L : List UInt8} {c : Nat} (h : Own w base A L c) : RB w w.heap.size A L := Reads.of_own h
def GivesOne (L : List UInt8) (w : World) (e : Ending) (w' : World) : Prop :=
  ∃ A c, e = .returned (.slice A L.length c) ∧ Own w' w.heap.size A L c ∧ Below w.heap.size w w'
theorem own_block {w : World} {base g n cap : Nat} {xs : List Value} (h : w.ownsRow base 5 1 (.slice (some ⟨g, 0, none⟩) n n) n xs) : w.heap[g]? = some (.cells xs.toArray 5 (0, 0)) := by
  rcases h.2 with ⟨h', _⟩ | ⟨g', cap', cur, h', hb, hg, hnc, hcm, hcs, htake⟩
  · simp at h'
  · simp only [Value.slice.injEq, Option.some.injEq, Addr.mk.injEq, and_true, true_and] at h'
    obtain ⟨rfl, rfl⟩ := h'
    have : cur = xs.toArray := by
      apply Array.toList_inj.1
      rw [← htake, List.take_of_length_le (by simp [hcs])]
    rw [← this]; exact hg
theorem block_own {w : World} {base g : Nat} {L : List UInt8} (h : w.heap[g]? = some (.cells (cells L).toArray 5 (0, 0))) (hb : base ≤ g) (hl : L.length ≤ 1048576) : Own w base (some ⟨g, 0, none⟩) L L.length :=
  ⟨by simp [cells_length], .inr ⟨g, L.length, _, rfl, hb, h, Nat.le_refl _, by unfold maxLen; omega, by simp [cells_length], by simp [cells_length]; exact List.take_of_length_le (by rw [cells_length]; omega)⟩⟩
theorem Tryz.size5 : (Tryz.prog.info? 5).map (·.size) = some 1 := by kernel_rfl
theorem made_block {w w1 : World} {n : Nat} (hown : w1.ownsRow w.heap.size 5 1 (.slice (some ⟨w.heap.size, 0, none⟩) n n) n (madeCells (Value.int .u8 0).cells (n * 1)).toList) : w1.heap[w.heap.size]? = some (.cells (List.replicate n (.int .u8 0)).toArray 5 (0, 0)) := by
  have h := own_block (cap := 0) hown
  rwa [Nat.mul_one, show (Value.int IntKind.u8 0).cells = #[Value.int IntKind.u8 0] from rfl, toList_madeCells_one] at h
theorem rb_src {w : World} {B : Nat} {A : Option Addr} {L : List UInt8} (h : RB w B A L) (x : Addr) :
    0 < (cells L).length → some x = some x ∧ ∃ ad, A = some ad ∧ ∀ j v, (cells L)[j]? = some v → w.cell? (ad.add j) = some v := by
  intro h0
  rw [cells_length] at h0
  obtain ⟨ad, e, _, hc⟩ := h.2 h0
  exact ⟨rfl, ad, e, hc⟩
theorem splice_all {α : Type} (Z X : List α) (h : Z.length = X.length) : splice Z 0 X = X := by
  simp [splice]; omega
theorem own_le {w : World} {base : Nat} {A : Option Addr} {L : List UInt8} {c : Nat} (h : Own w base A L c) : L.length ≤ c := by
  rcases h.2 with ⟨h', h0⟩ | ⟨g, cap, cur, h', _, _, hn, _⟩
  · omega
  · simp only [Value.slice.injEq] at h'
    omega
theorem blk_cell {w : World} {g : Nat} {cs : Array Value} {t : TypeId} (h : w.heap[g]? = some (.cells cs t (0, 0))) (i : Nat) : w.cell? ⟨g, i, none⟩ = cs[i]? ∧ w.frozen? ⟨g, i, none⟩ = false := ⟨Blk.cell h i, Blk.frozen h i⟩
theorem rb_cut {w : World} {B : Nat} {A : Option Addr} {L : List UInt8} (h : RB w B A L) {k c : Nat} (hk : k ≤ L.length) (hc : L.length ≤ c) : RB w B (if c = k then A else A.map (·.add (k * 1))) (L.drop k) := by
  have h1 := Reads.cut h hk hc
  unfold RB
  rw [List.length_drop, ← cells_drop]
  simpa using h1
theorem rb_cut1 {w : World} {B : Nat} {A : Option Addr} {L : List UInt8} (h : RB w B A L) {k c : Nat} (hk : k ≤ L.length) (hc : L.length ≤ c) (hck : c ≠ k) : RB w B (A.map (fun x => x.add k)) (L.drop k) := by
  have h1 := rb_cut h hk hc
  rw [if_neg hck, Nat.mul_one] at h1
  exact h1
theorem rb_take {w : World} {B : Nat} {A : Option Addr} {L : List UInt8} (h : RB w B A L) (k : Nat) (hk : k ≤ L.length) : RB w B A (L.take k) := by
  refine ⟨by rw [cells_length]; simp, fun h0 => ?_⟩
  obtain ⟨ad, e, hb', hcc⟩ := h.2 (by rw [List.length_take] at h0; omega)
  refine ⟨ad, e, hb', fun j u hu => hcc j u ?_⟩
  rw [← cells_take, List.getElem?_take] at hu
  split at hu
  · exact hu
  · cases hu
theorem rb_new (w : World) (L : List UInt8) : RB (w.alloc (.cells (cells L).toArray 5)) (w.heap.size + 1) (some ⟨w.heap.size, 0, none⟩) L := by
  refine ⟨by simp [cells_length], fun h0 => ⟨_, rfl, by simp, fun j u hu => ?_⟩⟩
  have h := heap_alloc_new w (.cells (cells L).toArray 5)
  have e : (⟨w.heap.size, 0, none⟩ : Addr).add j = ⟨w.heap.size, j, none⟩ := by unfold Addr.add; split <;> simp_all
  rw [e, (blk_cell h j).1]
  simpa using hu
theorem aw_str {w : World} {A : Option Addr} {L : List UInt8} (h : RB w w.heap.size A L) (n c : Nat) (hn : n = L.length) : (convert 39 9 (.slice A n c)).run Tryz.prog w = .ok (.string ⟨L.toArray⟩) w :=
  run_str 39 5 9 Tryz.underlying39 Tryz.underlying5 Tryz.underlying9 h n c hn
theorem made_rb {w w1 : World} {n : Nat} (hown : w1.ownsRow w.heap.size 5 1 (.slice (some ⟨w.heap.size, 0, none⟩) n n) n (madeCells (Value.int .u8 0).cells (n * 1)).toList) : RB w1 w1.heap.size (some ⟨w.heap.size, 0, none⟩) (List.replicate n 0) := by
  have h := World.ownsRow.lt hown w.heap.size rfl
  have e : (madeCells (Value.int .u8 0).cells (n * 1)).toList = cells (List.replicate n 0) := by
    rw [Nat.mul_one, show (Value.int IntKind.u8 0).cells = #[Value.int IntKind.u8 0] from rfl, toList_madeCells_one]
    simp [cells]
  rw [e] at hown
  have h2 := Reads.of_own hown
  unfold RB
  rw [List.length_replicate]
  exact h2
def GivesR (r : List UInt8 × Nat) (w : World) (e : Ending) (w' : World) : Prop :=
  ∃ A c, e = .returned (.tuple #[.slice A r.1.length c, .int .i64 (r.2 : Int)]) ∧ RB w' w'.heap.size A r.1 ∧ Below w.heap.size w w'
theorem GivesR.bytes {L : List UInt8} {w w' : World} {e : Ending} (h : GivesBytes L w e w') : GivesR (L, 0) w e w' := by
  obtain ⟨A, c, he, ho, hb⟩ := h
  exact ⟨A, c, he, own_rb ho, hb⟩
theorem own_kept {w w' : World} {base n : Nat} {v : Value} {xs : List Value} (h : w.ownsRow base 5 1 v n xs) (hb : Below w.heap.size w w') : w'.ownsRow base 5 1 v n xs :=
  World.ownsRow.kept h (row := none) ⟨hb.os, hb.tape, hb.output, hb.size, fun i hi _ => hb.block i hi⟩ (Classical.em _)
theorem text_toList (L : List UInt8) : (text L).toList = L := by
  rw [Lib.toList_data]
  rfl
theorem text_eq (L M : List UInt8) : ((text L).toList == (text M).toList) = decide (L = M) := by
  rw [text_toList, text_toList, Bool.eq_iff_iff]
  simp
theorem rb_lt {w : World} {B : Nat} {A : Option Addr} {L : List UInt8} (h : RB w B A L) : RB w w.heap.size A L := by
  refine ⟨h.1, fun hn => ?_⟩
  obtain ⟨ad, e, hb, hc⟩ := h.2 hn
  refine ⟨ad, e, ?_, hc⟩
  have h0 := hc 0 _ (cells_get L 0 hn)
  have := World.block_lt_of_cell? w _ h0
  rwa [block_of_add] at this
theorem own_cap {w : World} {base : Nat} {A : Option Addr} {L : List UInt8} {c : Nat} (h : Own w base A L c) : c ≤ 9223372036854775807 := by
  rcases h.2 with ⟨h', h0⟩ | ⟨g, cap, cur, h', _, _, hn, hm, _⟩
  · simp only [Value.slice.injEq] at h'
    omega
  · simp only [Value.slice.injEq] at h'
    have hm' : cap ≤ 9223372036854775807 := hm
    omega
end Go.Proofs.YtonnkibcnhjelaaGreatDoor
end
section
set_option linter.unusedVariables false
namespace Go.Proofs.YtonnkibcnhjelaaGreatDoor
open Go.RowKit
structure Turns (w w' : World) (F F' : Nat → Prop) : Prop where
  os : w'.os = w.os
  tape : w'.tape = w.tape
  output : w'.output = w.output
  size : w.heap.size ≤ w'.heap.size
  block : ∀ k, k < w.heap.size → ¬ F k → w'.heap[k]? = w.heap[k]?
  foot : ∀ k, F' k → F k ∨ w.heap.size ≤ k
section
variable {a b w w' : World} {F F' F'' : Nat → Prop}
theorem Turns.refl (w : World) (F : Nat → Prop) : Turns w w F F := ⟨rfl, rfl, rfl, Nat.le_refl _, fun _ _ _ => rfl, fun _ h => .inl h⟩
theorem Turns.trans {c : World} (h : Turns a b F F') (k : Turns b c F' F'') : Turns a c F F'' :=
  ⟨k.os.trans h.os, k.tape.trans h.tape, k.output.trans h.output, Nat.le_trans h.size k.size,
   fun i hi hn => (k.block i (Nat.lt_of_lt_of_le hi h.size) (fun hf => by rcases h.foot i hf with h1 | h1; exact hn h1; omega)).trans (h.block i hi hn),
   fun i hi => by
    rcases k.foot i hi with h1 | h1
    · exact h.foot i h1
    · exact .inr (Nat.le_trans h.size h1)⟩
theorem Turns.of_below (h : Below w.heap.size w w') (F : Nat → Prop) : Turns w w' F F := ⟨h.os, h.tape, h.output, h.size, fun k hk _ => h.block k hk, fun _ h => .inl h⟩
theorem Turns.below {B : Nat} (h : Turns w w' F F') (hF : ∀ k, F k → B ≤ k) (hB : B ≤ w.heap.size) : Below B w w' :=
  ⟨h.os, h.tape, h.output, h.size, fun k hk => h.block k (Nat.lt_of_lt_of_le hk hB) (fun hf => by have := hF k hf; omega)⟩
theorem Turns.set_ {g : Nat} (hg : F g) (i : Nat) (u : Value) : Turns w (w.setCell ⟨g, i, none⟩ u) F F :=
  ⟨rfl, rfl, rfl, by simp [World.setCell], fun k _ hk => heap_setCell_other w ⟨g, i, none⟩ k u (fun e => hk (by subst e; exact hg)), fun _ h => .inl h⟩
theorem Turns.row {g : Nat} (hg : F g) (cs : Array Value) : Turns w (w.setRow g cs) F F :=
  ⟨rfl, rfl, rfl, by simp [World.setRow], fun k _ hk => setRow_other w g k cs (fun e => hk (by subst e; exact hg)), fun _ h => .inl h⟩
theorem Turns.grown {row : Option Nat} (h : w.grownBy w' row) (hr : ∀ k, row = some k → F k) : Turns w w' F F :=
  ⟨h.os, h.tape, h.output, h.size, fun k hk hn => h.block k hk (fun e => hn (hr k e.symm)), fun _ h => .inl h⟩
theorem Turns.alloc (o : Obj) (F : Nat → Prop) : Turns w (w.alloc o) F F := Turns.of_below ((Below.refl _ _).alloc (Nat.le_refl _) o) F
theorem Turns.drew (F : Nat → Prop) : Turns w w.drew F F := Turns.of_below ((Below.refl _ _).drew) F
theorem Turns.drewN (n : Nat) (F : Nat → Prop) : Turns w (w.drewN n) F F := ⟨rfl, rfl, rfl, Nat.le_refl _, fun _ _ _ => rfl, fun _ h => .inl h⟩
theorem Turns.of_drew (h : Turns w.drew w' F F') : Turns w w' F F' := ⟨h.os, h.tape, h.output, h.size, h.block, h.foot⟩
theorem Turns.foot_ (h : Turns w w' F F') (hf : ∀ k, F'' k → F' k ∨ w.heap.size ≤ k) : Turns w w' F F'' :=
  ⟨h.os, h.tape, h.output, h.size, h.block, fun k hk => by
    rcases hf k hk with h1 | h1
    · exact h.foot k h1
    · exact .inr h1⟩
theorem Turns.wide {E E' : Nat → Prop} (h : Turns w w' F F') (h1 : ∀ k, F k → E k) (h2 : ∀ k, E' k → E k ∨ F' k ∨ w.heap.size ≤ k) : Turns w w' E E' :=
  ⟨h.os, h.tape, h.output, h.size, fun k hk hn => h.block k hk (fun hf => hn (h1 k hf)), fun k hk => by
    rcases h2 k hk with h3 | h3 | h3
    · exact .inl h3
    · rcases h.foot k h3 with h4 | h4
      · exact .inl (h1 k h4)
      · exact .inr h4
    · exact .inr h3⟩
theorem Turns.only {g : Nat} (h : Turns w w' F F') (hF : ∀ k, F k → k = g) : Only w w' g :=
  ⟨h.os, h.tape, h.output, h.size, fun k hk hn => h.block k hk (fun hf => hn (by rw [hF k hf]))⟩
theorem Turns.cell {p : Addr} (h : Turns w w' F F') (hp : p.block < w.heap.size) (hn : ¬ F p.block) : w'.cell? p = w.cell? p := World.cell?_of_block (h.block _ hp hn)
theorem Turns.frozen {p : Addr} (h : Turns w w' F F') (hp : p.block < w.heap.size) (hn : ¬ F p.block) : w'.frozen? p = w.frozen? p := World.frozen?_of_block (h.block _ hp hn)
theorem Blk.turns {g : Nat} {t : TypeId} {cs : Array Value} (h : Blk w g t cs) (ht : Turns w w' F F') (hn : ¬ F g) : Blk w' g t cs := (ht.block g h.lt hn).trans h
theorem Reads.turns {B size n : Nat} {A : Option Addr} {xs : List Value} (h : Reads w B size A n xs) (hB : B ≤ w.heap.size) (ht : Turns w w' F F') (hn : ∀ ad, A = some ad → ¬ F ad.block) : Reads w' B size A n xs :=
  ⟨h.1, fun h0 => by
    obtain ⟨ad, e, hb, hc⟩ := h.2 h0
    refine ⟨ad, e, hb, fun j u hu => ?_⟩
    rw [ht.cell (p := ad.add j) (by rw [block_of_add]; omega) (by rw [block_of_add]; exact hn ad e)]
    exact hc j u hu⟩
theorem own_turns {base : Nat} {e : TypeId} {size n : Nat} {v : Value} {xs : List Value} (h : w.ownsRow base e size v n xs) (ht : Turns w w' F F') (hn : ∀ k, v.ownBlock = some k → ¬ F k) : w'.ownsRow base e size v n xs := by
  refine ⟨h.1, ?_⟩
  rcases h.2 with h1 | ⟨g, cap, cur, rfl, h2, h3, h4⟩
  · exact .inl h1
  · exact .inr ⟨g, cap, cur, rfl, h2, (ht.block g (Blk.lt (t := e) h3) (hn g rfl)).trans h3, h4⟩
theorem own_lt {base : Nat} {e : TypeId} {size n : Nat} {v : Value} {xs : List Value} (h : w.ownsRow base e size v n xs) {k : Nat} (hk : v.ownBlock = some k) : k < w.heap.size ∧ ∃ cs, Blk w k e cs := by
  rcases h.2 with ⟨rfl, _⟩ | ⟨g, cap, cur, rfl, h2, h3, h4⟩
  · cases hk
  · have : g = k := by simpa [Value.ownBlock] using hk
    subst this
    exact ⟨Blk.lt (t := e) h3, cur, h3⟩
end
end Go.Proofs.YtonnkibcnhjelaaGreatDoor
end
