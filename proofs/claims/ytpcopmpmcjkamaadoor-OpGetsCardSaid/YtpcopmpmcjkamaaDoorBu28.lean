/- Lemmas under the proofs of this place: OpProg, OpRGetM. No statement is proved here. -/
import Derived.Test.YtpcopmpmcjkamaaDoorBu26
import Derived.Test.YtpcopmpmcjkamaaDoorBu27
import Derived.Test.YtpcopmpmcjkamaaDoorBu24
import Derived.Test.YtpcopmpmcjkamaaDoorBu21
import Derived.Test.YtpcopmpmcjkamaaDoorBu18
import Derived.Test.YtpcopmpmcjkamaaDoorBu23
import Derived.Test.YtpcopmpmcjkamaaDoorBu11
set_option linter.unusedSimpArgs false
set_option linter.unusedVariables false
set_option maxRecDepth 100000
set_option maxHeartbeats 16000000
namespace Go.Proofs.YtpcopmpmcjkamaaDoor
section
open Go.RowKit
def showL (o : Opn) : List UInt8 := if o.mayB = true then o.shown else [63]
theorem shown_1 (z : Int) (nm tx a : List UInt8) : Opn.shown ⟨1, nm, tx, z, a⟩ = wordO 1 ++ (32 :: nm) ++ (32 :: decZ z) := by simp [Opn.shown, Opn.fields, hasName, hasText, hasN, hasAt, blanks]
theorem shown_2 (z : Int) (nm tx a : List UInt8) : Opn.shown ⟨2, nm, tx, z, a⟩ = wordO 2 ++ (32 :: nm) ++ (32 :: 35 :: hexL tx) := by simp [Opn.shown, Opn.fields, hasName, hasText, hasN, hasAt, blanks]
theorem shown_3 (z : Int) (nm tx a : List UInt8) : Opn.shown ⟨3, nm, tx, z, a⟩ = wordO 3 ++ (32 :: nm) ++ (32 :: 35 :: hexL tx) := by simp [Opn.shown, Opn.fields, hasName, hasText, hasN, hasAt, blanks]
theorem shown_4 (z : Int) (nm tx a : List UInt8) : Opn.shown ⟨4, nm, tx, z, a⟩ = wordO 4 ++ (32 :: nm) ++ (32 :: 35 :: hexL tx) := by simp [Opn.shown, Opn.fields, hasName, hasText, hasN, hasAt, blanks]
theorem shown_5 (z : Int) (nm tx a : List UInt8) : Opn.shown ⟨5, nm, tx, z, a⟩ = wordO 5 ++ (32 :: nm) ++ (32 :: 35 :: hexL tx) ++ (32 :: 35 :: hexL a) := by simp [Opn.shown, Opn.fields, hasName, hasText, hasN, hasAt, blanks]
theorem shown_6 (z : Int) (nm tx a : List UInt8) : Opn.shown ⟨6, nm, tx, z, a⟩ = wordO 6 ++ (32 :: nm) ++ (32 :: 35 :: hexL a) := by simp [Opn.shown, Opn.fields, hasName, hasText, hasN, hasAt, blanks]
theorem shown_7 (z : Int) (nm tx a : List UInt8) : Opn.shown ⟨7, nm, tx, z, a⟩ = wordO 7 := by simp [Opn.shown, Opn.fields, hasName, hasText, hasN, hasAt, blanks]
theorem rshow_no (o : Opn) (w : World) (hn : o.name.length ≤ 1000000) (h : o.mayB = false) :
    Calls Tryd.prog 13 #[opV o] w fun e w' => e = .returned (.string (text [63])) ∧ Below w.heap.size w w' := by
  have HC0 : ∀ W, Calls Tryd.prog 17 #[opV o] W fun e w' => e = .returned (.bool false) ∧ Below W.heap.size W w' := fun W => by
    have := refCheck_any o W hn
    rwa [h] at this
  obtain ⟨k, nm, tx, z, a⟩ := o
  obtain ⟨t1, h1⟩ : ∃ t, t = text nm := ⟨_, rfl⟩
  obtain ⟨t2, h2⟩ : ∃ t, t = text tx := ⟨_, rfl⟩
  obtain ⟨t3, h3⟩ : ∃ t, t = text a := ⟨_, rfl⟩
  have HC : Hid (∀ W, Calls Tryd.prog 17 #[.agg #[.int .i64 k, .string t1, .string t2, .int .i64 z, .string t3]] W fun e w' => e = .returned (.bool false) ∧ Below W.heap.size W w') := by rw [h1, h2, h3]; exact HC0
  show Calls Tryd.prog 13 #[.agg #[.int .i64 k, .string (text nm), .string (text tx), .int .i64 z, .string (text a)]] w _
  rw [← h1, ← h2, ← h3]
  clear h1 h2 h3 HC0 h hn
  have hb0 : Below w.heap.size w (w.alloc (.cells #[.int .i64 k, .string t1, .string t2, .int .i64 z, .string t3] 23)) := (Below.refl _ _).alloc (Nat.le_refl _) _
  have a23 := fun w' => Tryd.opAgg w'
  have s23 := fun w' => Tryd.opSize w'
  go_enter Tryd.func13, Tryd.ntmps13
  go_wp2_with (first
    | (go_at_call 17; (with_reducible refine (HC.out _).mono ?_); rintro e w1 ⟨rfl, b1⟩))
  go_ret
  exact ⟨rfl, by first | exact hb0.trans (b1.mono hb0.size) | exact (hb0.trans (b1.mono hb0.size)).drew⟩
theorem pshow_no (o : Opn) (w : World) (hn : o.name.length ≤ 1000000) (ht : o.text.length ≤ 1000000) (h : o.mayB = false) :
    Calls Tryd.prog 12 #[opV o] w fun e w' => e = .returned (.string (text [63])) ∧ Below w.heap.size w w' := by
  have HC0 : ∀ W, Calls Tryd.prog 11 #[opV o] W fun e w' => e = .returned (.int .i64 1) ∧ Below W.heap.size W w' := fun W => by
    have := pCheck_any o W hn ht
    rwa [h] at this
  obtain ⟨k, nm, tx, z, a⟩ := o
  obtain ⟨t1, h1⟩ : ∃ t, t = text nm := ⟨_, rfl⟩
  obtain ⟨t2, h2⟩ : ∃ t, t = text tx := ⟨_, rfl⟩
  obtain ⟨t3, h3⟩ : ∃ t, t = text a := ⟨_, rfl⟩
  have HC : Hid (∀ W, Calls Tryd.prog 11 #[.agg #[.int .i64 k, .string t1, .string t2, .int .i64 z, .string t3]] W fun e w' => e = .returned (.int .i64 1) ∧ Below W.heap.size W w') := by rw [h1, h2, h3]; exact HC0
  show Calls Tryd.prog 12 #[.agg #[.int .i64 k, .string (text nm), .string (text tx), .int .i64 z, .string (text a)]] w _
  rw [← h1, ← h2, ← h3]
  clear h1 h2 h3 HC0 h hn ht
  have hb0 : Below w.heap.size w (w.alloc (.cells #[.int .i64 k, .string t1, .string t2, .int .i64 z, .string t3] 23)) := (Below.refl _ _).alloc (Nat.le_refl _) _
  have a23 := fun w' => Tryd.opAgg w'
  have s23 := fun w' => Tryd.opSize w'
  go_enter Tryd.func12, Tryd.ntmps12
  go_wp2_with (first
    | (go_at_call 11; (with_reducible refine (HC.out _).mono ?_); rintro e w1 ⟨rfl, b1⟩))
  go_ret
  exact ⟨rfl, by first | exact hb0.trans (b1.mono hb0.size) | exact (hb0.trans (b1.mono hb0.size)).drew⟩
theorem pShow_any (o : Opn) (w : World) (hT : TenT w) (hn : o.name.length ≤ 1000000) (ht : o.text.length ≤ 1000000) : Calls Tryd.prog 12 #[opV o] w fun e w' => e = .returned (.string (text (showL o))) ∧ Below w.heap.size w w' := by
  cases hm : o.mayB with
  | false =>
    have e : showL o = [63] := by unfold showL; rw [hm, if_neg (by simp)]
    rw [e]
    exact pshow_no o w hn ht hm
  | true =>
    have hM := (mayB_iff o).1 hm
    have HC : Hid (∀ W, Calls Tryd.prog 11 #[opV o] W fun e w' => e = .returned (.int .i64 0) ∧ Below W.heap.size W w') := fun W => by
      have := pCheck_any o W hn ht
      rw [hm] at this
      exact this
    have e : showL o = o.shown := by unfold showL; rw [hm, if_pos rfl]
    rw [e]
    obtain ⟨k, nm, tx, z, a⟩ := o
    obtain ⟨l1, l2, l3, hz⟩ := may_parts hM
    rcases kind_cases hM.kind with e | e | e | e | e | e | e <;> simp only at e <;> subst e
    · rw [shown_1]; exact pshow_1 z nm tx a w l1 l2 l3 hz hT HC
    · rw [shown_2]; exact pshow_2 z nm tx a w l1 l2 l3 hz hT HC
    · rw [shown_3]; exact pshow_3 z nm tx a w l1 l2 l3 hz hT HC
    · rw [shown_4]; exact pshow_4 z nm tx a w l1 l2 l3 hz hT HC
    · rw [shown_5]; exact pshow_5 z nm tx a w l1 l2 l3 hz hT HC
    · rw [shown_6]; exact pshow_6 z nm tx a w l1 l2 l3 hz hT HC
    · rw [shown_7]; exact pshow_7 z nm tx a w l1 l2 l3 hz hT HC
theorem rShow_any (o : Opn) (w : World) (hn : o.name.length ≤ 1000000) : Calls Tryd.prog 13 #[opV o] w fun e w' => e = .returned (.string (text (showL o))) ∧ Below w.heap.size w w' := by
  cases hm : o.mayB with
  | false =>
    have e : showL o = [63] := by unfold showL; rw [hm, if_neg (by simp)]
    rw [e]
    exact rshow_no o w hn hm
  | true =>
    have hM := (mayB_iff o).1 hm
    have HC : Hid (∀ W, Calls Tryd.prog 17 #[opV o] W fun e w' => e = .returned (.bool true) ∧ Below W.heap.size W w') := fun W => by
      have := refCheck_any o W hn
      rw [hm] at this
      exact this
    have e : showL o = o.shown := by unfold showL; rw [hm, if_pos rfl]
    rw [e]
    obtain ⟨k, nm, tx, z, a⟩ := o
    obtain ⟨l1, l2, l3, hz⟩ := may_parts hM
    rcases kind_cases hM.kind with e | e | e | e | e | e | e <;> simp only at e <;> subst e
    · rw [shown_1]; exact rshow_1 z nm tx a w l1 l2 l3 hz HC
    · rw [shown_2]; exact rshow_2 z nm tx a w l1 l2 l3 hz HC
    · rw [shown_3]; exact rshow_3 z nm tx a w l1 l2 l3 hz HC
    · rw [shown_4]; exact rshow_4 z nm tx a w l1 l2 l3 hz HC
    · rw [shown_5]; exact rshow_5 z nm tx a w l1 l2 l3 hz HC
    · rw [shown_6]; exact rshow_6 z nm tx a w l1 l2 l3 hz HC
    · rw [shown_7]; exact rshow_7 z nm tx a w l1 l2 l3 hz HC
theorem showL_inj {o p : Opn} (ho : o.mayB = true) (hp : p.mayB = true) (h : showL o = showL p) : o = p := by
  unfold showL at h
  rw [ho, hp, if_pos rfl, if_pos rfl] at h
  exact shown_inj ((mayB_iff o).1 ho) ((mayB_iff p).1 hp) h
end
section
open Go.RowKit
structure RefS (w W : World) (A : Option Addr) (M : List UInt8) (c C P : Nat) (st : St) (k : Int) (t1 t2 : ByteArray) (z : Int) (t3 : ByteArray) : Prop where
  cv : ∃ (X : Option Addr) (n m q : Nat) (b : Bool), RefV A M c (.agg #[.slice X n m, .int .i64 (q : Int), .bool b]) st ∧ Blk W C 57 #[.slice X n m, .int .i64 (q : Int), .bool b]
  var : Blk W P 23 (opC k t1 t2 z t3)
  res : Blk W w.heap.size 23 (opC 0 { data := #[] } { data := #[] } 0 { data := #[] })
  below : Below w.heap.size w W
  cw : w.heap.size < C
  pw : w.heap.size < P
  cp : C ≠ P
section
variable {w W W' : World} {A : Option Addr} {M : List UInt8} {c C P : Nat} {st st' : St} {k z : Int} {t1 t2 t3 : ByteArray}
theorem RefS.up (h : RefS w W A M c C P st k t1 t2 z t3) (hb : Below W.heap.size W W') : RefS w W' A M c C P st k t1 t2 z t3 := by
  obtain ⟨X, n, m, q, b, h1, h2⟩ := h.cv
  exact ⟨⟨X, n, m, q, b, h1, h2.below hb h2.lt⟩, h.var.below hb h.var.lt, h.res.below hb h.res.lt, h.below.trans (hb.mono h.below.size), h.cw, h.pw, h.cp⟩
theorem below_at {p : Nat} (h : Below w.heap.size w W) (hp : w.heap.size < p) (i : Nat) (u : Value) : Below w.heap.size w (W.setCell ⟨p, i, none⟩ u) :=
  h.trans ⟨rfl, rfl, rfl, by simp [World.setCell], fun j hj => Below.heap_setCell W ⟨p, i, none⟩ u j (fun e => by have e2 : j = p := e; omega)⟩
theorem RefS.setc (h : RefS w W A M c C P st k t1 t2 z t3) {X : Option Addr} {n m q : Nat} {b : Bool} (hv : RefV A M c (.agg #[.slice X n m, .int .i64 (q : Int), .bool b]) st') :
    RefS w (((W.setCell ⟨C, 0, none⟩ (.slice X n m)).setCell ⟨C, 1, none⟩ (.int .i64 (q : Int))).setCell ⟨C, 2, none⟩ (.bool b)) A M c C P st' k t1 t2 z t3 := by
  obtain ⟨X', n', m', q', b', h1, h2⟩ := h.cv
  have hr : w.heap.size ≠ C := by have := h.cw; omega
  refine ⟨⟨X, n, m, q, b, hv, ?_⟩, Blk.far (Blk.far (Blk.far h.var h.cp.symm _) h.cp.symm _) h.cp.symm _, Blk.far (Blk.far (Blk.far h.res hr _) hr _) hr _, below_at (below_at (below_at h.below h.cw 0 _) h.cw 1 _) h.cw 2 _, h.cw, h.pw, h.cp⟩
  have K := ((h2.set_ 0 (.slice X n m)).set_ 1 (.int .i64 (q : Int))).set_ 2 (.bool b)
  simpa using K
theorem RefS.setp (h : RefS w W A M c C P st k t1 t2 z t3) (i : Nat) (u : Value) {k' z' : Int} {t1' t2' t3' : ByteArray} (he : (opC k t1 t2 z t3).setIfInBounds i u = opC k' t1' t2' z' t3') : RefS w (W.setCell ⟨P, i, none⟩ u) A M c C P st k' t1' t2' z' t3' := by
  obtain ⟨X', n', m', q', b', h1, h2⟩ := h.cv
  have hr : w.heap.size ≠ P := by have := h.pw; omega
  refine ⟨⟨X', n', m', q', b', h1, h2.far h.cp u⟩, ?_, h.res.far hr u, below_at h.below h.pw i u, h.cw, h.pw, h.cp⟩
  have K := h.var.set_ i u
  rwa [he] at K
theorem RefS.set1 (h : RefS w W A M c C P st k t1 t2 z t3) (t : ByteArray) : RefS w (W.setCell ⟨P, 1, none⟩ (.string t)) A M c C P st k t t2 z t3 := h.setp 1 _ rfl
theorem RefS.set2 (h : RefS w W A M c C P st k t1 t2 z t3) (t : ByteArray) : RefS w (W.setCell ⟨P, 2, none⟩ (.string t)) A M c C P st k t1 t z t3 := h.setp 2 _ rfl
theorem RefS.set3 (h : RefS w W A M c C P st k t1 t2 z t3) (y : Int) : RefS w (W.setCell ⟨P, 3, none⟩ (.int .i64 y)) A M c C P st k t1 t2 y t3 := h.setp 3 _ rfl
theorem RefS.set4 (h : RefS w W A M c C P st k t1 t2 z t3) (t : ByteArray) : RefS w (W.setCell ⟨P, 4, none⟩ (.string t)) A M c C P st k t1 t2 z t := h.setp 4 _ rfl
def RefC (C P R : Nat) (W : World) (x0 x1 x2 : Value) (k : Int) (t1 t2 : ByteArray) (z : Int) (t3 : ByteArray) : Prop :=
  RdC P R W k t1 t2 z t3 ∧ C < W.heap.size ∧ W.cell? ⟨C, 0, none⟩ = some x0 ∧ W.cell? ⟨C, 1, none⟩ = some x1 ∧ W.cell? ⟨C, 2, none⟩ = some x2 ∧ (∀ i, W.frozen? ⟨C, i, none⟩ = false)
theorem RefS.cells (h : RefS w W A M c C P st k t1 t2 z t3) : ∃ (X : Option Addr) (n m q : Nat) (b : Bool), RefV A M c (.agg #[.slice X n m, .int .i64 (q : Int), .bool b]) st ∧ RefC C P w.heap.size W (.slice X n m) (.int .i64 (q : Int)) (.bool b) k t1 t2 z t3 := by
  obtain ⟨X, n, m, q, b, h1, h2⟩ := h.cv
  exact ⟨X, n, m, q, b, h1, ⟨h.var.lt, h.res.lt, h.var.cell 0, h.var.cell 1, h.var.cell 2, h.var.cell 3, h.var.cell 4, h.var.frozen, h.res.cell 0, h.res.cell 1, h.res.cell 2, h.res.cell 3, h.res.cell 4, h.res.frozen⟩, h2.lt, h2.cell 0, h2.cell 1, h2.cell 2, h2.frozen⟩
theorem RefC.up {R : Nat} {x0 x1 x2 : Value} (h : RefC C P R W x0 x1 x2 k t1 t2 z t3) (hb : Below W.heap.size W W') : RefC C P R W' x0 x1 x2 k t1 t2 z t3 := by
  obtain ⟨⟨a1, a2, b0, b1, b2, b3, b4, b5, c0, c1, c2, c3, c4, c5⟩, d0, d1, d2, d3, d4⟩ := h
  have u : ∀ {g i : Nat} {v : Value}, g < W.heap.size → W.cell? ⟨g, i, none⟩ = some v → W'.cell? ⟨g, i, none⟩ = some v := fun {g i v} hg hc => (hb.cell (p := ⟨g, i, none⟩) hg).trans hc
  have f : ∀ {g : Nat}, g < W.heap.size → (∀ i, W.frozen? ⟨g, i, none⟩ = false) → ∀ i, W'.frozen? ⟨g, i, none⟩ = false := fun {g} hg hc i => (hb.frozen (p := ⟨g, i, none⟩) hg).trans (hc i)
  exact ⟨⟨Nat.lt_of_lt_of_le a1 hb.size, Nat.lt_of_lt_of_le a2 hb.size, u a1 b0, u a1 b1, u a1 b2, u a1 b3, u a1 b4, f a1 b5, u a2 c0, u a2 c1, u a2 c2, u a2 c3, u a2 c4, f a2 c5⟩, Nat.lt_of_lt_of_le d0 hb.size, u d0 d1, u d0 d2, u d0 d3, f d0 d4⟩
theorem refv_boolO {a b : Value} {x : Bool} (h : RefV A M c (.agg #[a, b, .bool x]) st) : x = st.isNone := by
  rcases st with _ | L
  · have h' : Value.agg #[a, b, .bool x] = .agg #[.slice none 0 0, .int .i64 0, .bool true] := h
    simp only [Value.agg.injEq, Array.mk.injEq, List.cons.injEq, Value.bool.injEq, and_true] at h'
    exact h'.2.2
  · obtain ⟨k, h', _⟩ := h
    simp only [Value.agg.injEq, Array.mk.injEq, List.cons.injEq, Value.bool.injEq, and_true] at h'
    exact h'.2.2
theorem refv_left {v : Value} (h : RefV A M c v st) : leftN st ≤ M.length := by
  rcases st with _ | L
  · exact Nat.zero_le _
  · obtain ⟨k, _, hk, hL⟩ := h
    show L.length ≤ M.length
    rw [hL, List.length_drop]
    omega
end
def TkB (A : Option Addr) (M : List UInt8) (c B n : Nat) (L : List UInt8) (st : St) (W : World) (e : Ending) (w' : World) : Prop :=
  ∃ (Y : Option Addr) (ny my qy : Nat) (bo : Bool) (A1 : Option Addr) (c1 : Nat), e = .returned (.tuple #[.agg #[.slice Y ny my, .int .i64 (qy : Int), .bool bo], .slice A1 n c1]) ∧ Hid (RefV A M c (.agg #[.slice Y ny my, .int .i64 (qy : Int), .bool bo]) st) ∧ Hid (RB w' B A1 L) ∧ Hid (Below W.heap.size W w')
def TkN (A : Option Addr) (M : List UInt8) (c : Nat) (x : Nat) (st : St) (W : World) (e : Ending) (w' : World) : Prop :=
  ∃ (Y : Option Addr) (ny my qy : Nat) (bo : Bool), e = .returned (.tuple #[.agg #[.slice Y ny my, .int .i64 (qy : Int), .bool bo], .int .i64 (x : Int)]) ∧ Hid (RefV A M c (.agg #[.slice Y ny my, .int .i64 (qy : Int), .bool bo]) st) ∧ Hid (Below W.heap.size W w')
theorem tkB_of {A : Option Addr} {M : List UInt8} {c B n : Nat} {L : List UInt8} {st : St} {r : St × List UInt8} {W : World} {e : Ending} {w' : World} (h : GivesRefB A M c B r W e w') (hr : r = (st, L)) (hn : n = L.length) : TkB A M c B n L st W e w' := by
  obtain ⟨y0, y1, y2, A1, c1, he, hv, hrb, hb⟩ := h
  obtain ⟨Y, ny, my, qy, bo, rfl, rfl, rfl⟩ := refv_parts hv
  subst hr
  subst hn
  exact ⟨Y, ny, my, qy, bo, A1, c1, he, hv, hrb, hb⟩
theorem tkN_of {A : Option Addr} {M : List UInt8} {c x : Nat} {st : St} {r : St × Nat} {W : World} {e : Ending} {w' : World} (h : GivesRefN A M c r W e w') (hr : r = (st, x)) : TkN A M c x st W e w' := by
  obtain ⟨y0, y1, y2, he, hv, hb⟩ := h
  obtain ⟨Y, ny, my, qy, bo, rfl, rfl, rfl⟩ := refv_parts hv
  subst hr
  exact ⟨Y, ny, my, qy, bo, he, hv, hb⟩
theorem and_noO {a b : Bool} (h : false = (a && b)) : a = false ∨ b = false := by cases a <;> cases b <;> simp_all
theorem and_yesO {a b : Bool} (h : true = (a && b)) : a = true ∧ b = true := by cases a <;> cases b <;> simp_all
theorem rget_no {b : List UInt8} {st : St} {o : Opn} (h : readO (some b) = (st, o)) (hx : st.isNone = true ∨ o.mayB = false ∨ o.bytes ≠ b.take (b.length - leftN st)) : GetsO b none := by
  intro p k hp
  have h2 := read_begins hp
  rw [h] at h2
  simp only [Prod.mk.injEq] at h2
  obtain ⟨h3, h4⟩ := h2
  subst h3
  subst h4
  rcases hx with hx | hx | hx
  · cases hx
  · rw [(mayB_iff o).2 hp.1] at hx; cases hx
  · apply hx
    have e : b.length - leftN (some (b.drop k)) = k := by
      show b.length - (b.drop k).length = k
      rw [List.length_drop]
      have := hp.2.1
      omega
    rw [e]
    exact hp.2.2.symm
theorem rget_yes {b : List UInt8} {st : St} {o : Opn} (hm : o.mayB = true) (hx : o.bytes = b.take (b.length - leftN st)) : GetsO b (some (o, b.length - leftN st)) :=
  ⟨(mayB_iff o).1 hm, Nat.sub_le _ _, hx.symm⟩
end
end Go.Proofs.YtpcopmpmcjkamaaDoor
