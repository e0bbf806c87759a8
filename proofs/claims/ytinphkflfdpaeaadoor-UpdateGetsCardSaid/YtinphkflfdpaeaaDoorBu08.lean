/- Lemmas under the proofs of this place: IndexText, Gen7, CurT. No statement is proved here. -/
import Derived.Test.YtinphkflfdpaeaaDoorBu05
import Derived.Test.YtinphkflfdpaeaaDoorBu04
import Derived.Test.YtinphkflfdpaeaaDoorBu01
import Derived.Test.YtinphkflfdpaeaaDoorBu02
import Derived.StillTailTactics
set_option linter.unusedSimpArgs false
set_option linter.unusedVariables false
namespace Go.Proofs.YtinphkflfdpaeaaDoor
section
open Go.RowKit
theorem index_text (L : Bs) (kk : IntKind) (k : Nat) (V : World) (hk : k < L.length) : (Instr.index 9 (.string (text L)) (.int kk (k : Int))).run Tryd.prog V = .ok (.int .u8 ((L.getD k 0).toNat : Int)) V := by
  rw [run_index_string _ _ _ _ _ Tryd.underlying9]
  have hs := text_size L
  rw [dif_pos ⟨by omega, by omega⟩]
  have e : (k : Int).toNat = k := by omega
  have hb : (text L)[(k : Int).toNat]'(by omega) = L.getD k 0 := by
    simp only [e]
    show L.toArray[k]'(by simpa using hk) = _
    simp [List.getD, List.getElem?_eq_getElem hk]
  rw [hb]
end
section
open Go.RowKit
theorem rb_up7 {w w' : World} {A : Option Addr} {L : List UInt8} (h : RB w w.heap.size A L) (hb : Below w.heap.size w w') : RB w' w'.heap.size A L := (h.below hb).more hb.size
def RBc (w : World) (A : Option Addr) (L : List UInt8) (c : Nat) : Prop := RB w w.heap.size A L ∧ L.length ≤ c ∧ c ≤ 9223372036854775807
theorem own_cap7 {w : World} {base c : Nat} {A : Option Addr} {L : List UInt8} (h : Own w base A L c) : RBc w A L c := by
  refine ⟨own_rb h, ?_⟩
  rcases h.2 with ⟨h1, h2⟩ | ⟨g, cap, cur, h1, _, _, h3, h4, _⟩
  · simp only [Value.slice.injEq] at h1
    omega
  · simp only [Value.slice.injEq] at h1
    unfold maxLen at h4
    omega
theorem append_far {ops : Array Oper} {rest : List Oper} {o : Oper} {a : Act} {Q : Exit → Act → World → Prop} (hgd : o.guard = none) (s x : Operand)
    (ho : o.op = .call { callee := .builtin .append, args := #[s, x], argTypes := #[29, 29] })
    {B B2 : Nat} {w0 wr : World} {v : Value} {P L : List UInt8} {A : Option Addr} {n m c k : Nat} (hs : a.eval s = v) (hown : wr.ownsRow B 5 1 v n (cells P)) (hb : Below B w0 wr) (hB : B ≤ w0.heap.size)
    (hx : a.eval x = .slice A m c) (hr : RB wr B2 A L) (hm : m = L.length) (hlen : n + m ≤ 1048576) (hk : n + m = k)
    (h : ∀ A' c' w1, w1.ownsRow B 5 1 (.slice A' k c') k (cells (P ++ L)) → Below B w0 w1 → wr.heap.size ≤ w1.heap.size → (∀ p u, wr.cell? p = some u → v.ownBlock ≠ some p.block → w1.cell? p = some u) →
      (∀ g, g < wr.heap.size → v.ownBlock ≠ some g → (Value.slice A' k c').ownBlock ≠ some g) → wpList Tryd.prog ops Q rest (a.put o.dst (.slice A' k c')) w1) :
    wpList Tryd.prog ops Q (o :: rest) a wr := by
  obtain ⟨i0, hi0, hz0, hz1, hz2⟩ := info_parts Tryd.info5
  subst hk hm
  refine wpList_append_any wr hgd s x 29 ho B 5 i0 _ 1 1 Tryd.underlying29 hi0 hz0 hz1 hz2 rfl (by omega) v n (cells P) hs hown B2 A L.length c (cells L) hx hr (cells_one _) (by unfold maxLen; omega) (by omega) (Nat.le_trans hB hb.size) fun v' w' ho' hg hat => ?_
  obtain ⟨A', c', rfl⟩ := own_form ho'
  rw [cells_append] at h
  refine h A' c' w' ho' (hb.grown hg (Nat.le_trans hB hb.size) fun j hj => (hown.lt j hj).1) hg.size (fun p u hp hne => hg.cell hp (fun e => hne e.symm)) (fun g hlt hne he => ?_)
  rcases hat with h1 | h1
  · exact hne (h1 ▸ he)
  · rw [he] at h1
    injection h1 with h1
    omega
theorem append_rb {ops : Array Oper} {rest : List Oper} {o : Oper} {a : Act} {Q : Exit → Act → World → Prop} (hgd : o.guard = none) (s x : Operand)
    (ho : o.op = .call { callee := .builtin .append, args := #[s, x], argTypes := #[29, 29] })
    {B B2 : Nat} {w0 wr : World} {v : Value} {P L : List UInt8} {A : Option Addr} {n m c k : Nat} (hs : a.eval s = v) (hown : wr.ownsRow B 5 1 v n (cells P)) (hb : Below B w0 wr) (hB : B ≤ w0.heap.size)
    (hx : a.eval x = .slice A m c) (hr : RB wr B2 A L) (hm : m = L.length) (hlen : n + m ≤ 1048576) (hk : n + m = k)
    (h : ∀ A' c' w1, w1.ownsRow B 5 1 (.slice A' k c') k (cells (P ++ L)) → Below B w0 w1 → wpList Tryd.prog ops Q rest (a.put o.dst (.slice A' k c')) w1) :
    wpList Tryd.prog ops Q (o :: rest) a wr := append_far hgd s x ho hs hown hb hB hx hr hm hlen hk fun A' c' w1 h1 h2 _ _ _ => h A' c' w1 h1 h2
end
section
open Go.RowKit
abbrev St := Option (List UInt8)
def stepTake (n : Int) : St → St × List UInt8
  | none => (none, [])
  | some L => if n < 0 ∨ (L.length : Int) < n then (none, []) else (some (L.drop n.toNat), L.take n.toNat)
end
end Go.Proofs.YtinphkflfdpaeaaDoor
