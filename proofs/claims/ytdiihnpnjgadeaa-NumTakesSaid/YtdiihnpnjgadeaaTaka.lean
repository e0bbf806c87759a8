/- What a round of NumTakes keeps: the cursor and the reference's cursor stand at the same place. Plain lemmas; no statement is proved here. -/
import Derived.Test.YtdiihnpnjgadeaaRefb
import Derived.Test.YtdiihnpnjgadeaaAwakeb
import Derived.Test.YtdiihnpnjgadeaaLaw
namespace Go.Proofs.Ytdiihnpnjgadeaa
open Go.RowKit

/-- A block that holds the reference's cursor. -/
def Box (w : World) (gx : Nat) (y0 y1 y2 : Value) : Prop := w.heap[gx]? = some (.cells #[y0, y1, y2] 42 (0, 0))

theorem Box.lt {w : World} {gx : Nat} {y0 y1 y2 : Value} (h : Box w gx y0 y1 y2) : gx < w.heap.size := Blk.lt h
theorem Box.cells {w : World} {gx : Nat} {y0 y1 y2 : Value} (h : Box w gx y0 y1 y2) :
    w.cell? ⟨gx, 0, none⟩ = some y0 ∧ w.cell? ⟨gx, 1, none⟩ = some y1 ∧ w.cell? ⟨gx, 2, none⟩ = some y2 ∧ w.frozen? ⟨gx, 0, none⟩ = false ∧ w.frozen? ⟨gx, 1, none⟩ = false ∧ w.frozen? ⟨gx, 2, none⟩ = false :=
  ⟨(blk_cell h 0).1, (blk_cell h 1).1, (blk_cell h 2).1, (blk_cell h 0).2, (blk_cell h 1).2, (blk_cell h 2).2⟩

theorem cur_block {w : World} {g : Nat} {st : St} (h : Cur w g st) : ∃ A n c b, w.heap[g]? = some (.cells #[.slice A n c, .bool b] 55 (0, 0)) := by
  rcases st with _ | L
  · exact ⟨_, _, _, _, h⟩
  · obtain ⟨A, c, h, _⟩ := h
    exact ⟨_, _, _, _, h⟩
theorem cur_lt {w : World} {g : Nat} {st : St} (h : Cur w g st) : g < w.heap.size := by
  obtain ⟨A, n, c, b, hg⟩ := cur_block h
  exact Blk.lt hg
theorem box_ne {w : World} {g gx : Nat} {st : St} {y0 y1 y2 : Value} (hc : Cur w g st) (hb : Box w gx y0 y1 y2) : gx ≠ g := by
  obtain ⟨A, n, c, b, hg⟩ := cur_block hc
  exact Blk.ne_ hb hg (by decide)

/-- Bytes stay where only the reference's box is written. -/
theorem rb_box {w w' : World} {B gx : Nat} {A : Option Addr} {L : List UInt8} {A0 : Option Addr} {n0 c0 : Nat} {k : Int} {b0 : Bool} (h : RB w B A L) (hB : B ≤ w.heap.size)
    (hx : Box w gx (.slice A0 n0 c0) (.int .i64 k) (.bool b0)) (ho : Only w w' gx) : RB w' B A L := by
  refine ⟨h.1, fun hn => ?_⟩
  obtain ⟨b, off, rfl, hb, hcc⟩ := RB.at_ h hn
  have hne : b ≠ gx := by
    rintro rfl
    have h0 := hcc 0 hn
    rw [Nat.add_zero, (blk_cell hx off).1] at h0
    match off, h0 with
    | 0, h0 => simp at h0
    | 1, h0 => simp at h0
    | 2, h0 => simp at h0
    | off + 3, h0 => simp at h0
  obtain ⟨ad, e, hb', hc'⟩ := h.2 hn
  injection e with e
  subst e
  refine ⟨_, rfl, hb', fun j v hv => ?_⟩
  rw [World.cell?_of_block (ho.block _ (by rw [block_of_add]; show b < _; omega) (by rw [block_of_add]; simpa using hne))]
  exact hc' j v hv

theorem cur_box {w w' : World} {g gx : Nat} {st : St} {A0 : Option Addr} {n0 c0 : Nat} {k : Int} {b0 : Bool} (hc : Cur w g st) (hx : Box w gx (.slice A0 n0 c0) (.int .i64 k) (.bool b0)) (ho : Only w w' gx) : Cur w' g st := by
  have hne := box_ne hc hx
  have hlt := cur_lt hc
  have hblk : w'.heap[g]? = w.heap[g]? := ho.block g hlt (by simpa using Ne.symm hne)
  rcases st with _ | L
  · exact hblk.trans hc
  · obtain ⟨A, c, h, hr, h1, h2⟩ := hc
    exact ⟨A, c, hblk.trans h, (rb_box hr (Nat.le_refl _) hx ho).more ho.size, h1, h2⟩

theorem only_alloc {a w : World} {g : Nat} (h : Only a w g) (o : Obj) : Only a (w.alloc o) g :=
  ⟨h.os, h.tape, h.output, Nat.le_trans h.size (by simp), fun i hi hne => (Below.heap_alloc w o i (Nat.lt_of_lt_of_le hi h.size)).trans (h.block i hi hne)⟩

/-- Behind a call on the reference's cursor, the new one stored into its box: the cursor is as it was. -/
theorem after_ref {w w1 : World} {g gx : Nat} {st : St} {A0 : Option Addr} {n0 c0 : Nat} {k0 : Int} {b0 : Bool} (hc : Cur w g st) (hx : Box w gx (.slice A0 n0 c0) (.int .i64 k0) (.bool b0)) (hb : Below w.heap.size w w1) (z0 z1 z2 : Value) (o : Obj) :
    Cur ((((w1.setCell ⟨gx, 0, none⟩ z0).setCell ⟨gx, 1, none⟩ z1).setCell ⟨gx, 2, none⟩ z2).alloc o) g st ∧
    Box ((((w1.setCell ⟨gx, 0, none⟩ z0).setCell ⟨gx, 1, none⟩ z1).setCell ⟨gx, 2, none⟩ z2).alloc o) gx z0 z1 z2 ∧
    Only w ((((w1.setCell ⟨gx, 0, none⟩ z0).setCell ⟨gx, 1, none⟩ z1).setCell ⟨gx, 2, none⟩ z2).alloc o) gx := by
  have ho : Only w ((((w1.setCell ⟨gx, 0, none⟩ z0).setCell ⟨gx, 1, none⟩ z1).setCell ⟨gx, 2, none⟩ z2).alloc o) gx :=
    only_alloc (only_trans (only_below hb gx) (only_trans (only_trans (only_set _ _ _ _) (only_set _ _ _ _)) (only_set _ _ _ _))) o
  refine ⟨cur_box hc hx ho, ?_, ho⟩
  have h1 : Box w1 gx _ _ _ := Blk.below hx hb (Box.lt hx)
  exact Blk.alloc (Blk.set_ (Blk.set_ (Blk.set_ h1 0 z0) 1 z1) 2 z2) o

/-- Behind a call on the cursor: the reference's box is as it was. -/
theorem box_only {w w' : World} {g gx : Nat} {st : St} {y0 y1 y2 : Value} (hc : Cur w g st) (hx : Box w gx y0 y1 y2) (ho : Only w w' g) : Box w' gx y0 y1 y2 :=
  (ho.block gx (Box.lt hx) (by simpa using box_ne hc hx)).trans hx

/-- What a round keeps. -/
structure TI (A : Option Addr) (L : List UInt8) (c g gx : Nat) (st : St) (w : World) : Prop where
  cur : Cur w g st
  box : ∃ Y0 n1 m1 k1 b1, Box w gx (.slice Y0 n1 m1) (.int .i64 ((k1 : Nat) : Int)) (.bool b1) ∧ RefV A L c (.agg #[.slice Y0 n1 m1, .int .i64 ((k1 : Nat) : Int), .bool b1]) st

/-- Whether the reference's cursor is bad, is what it says. -/
theorem refv_bad {A : Option Addr} {L : List UInt8} {c : Nat} {y0 y1 : Value} {b : Bool} {st : St} (h : RefV A L c (.agg #[y0, y1, .bool b]) st) : st.isNone = b := by
  rcases st with _ | M
  · have h' : Value.agg #[y0, y1, .bool b] = .agg #[.slice none 0 0, .int .i64 0, .bool true] := h
    simp only [Value.agg.injEq, Array.mk.injEq, List.cons.injEq, Value.bool.injEq, and_true] at h'
    exact h'.2.2.symm
  · obtain ⟨k, h', _⟩ := h
    simp only [Value.agg.injEq, Array.mk.injEq, List.cons.injEq, Value.bool.injEq, and_true] at h'
    exact h'.2.2.symm

end Go.Proofs.Ytdiihnpnjgadeaa
