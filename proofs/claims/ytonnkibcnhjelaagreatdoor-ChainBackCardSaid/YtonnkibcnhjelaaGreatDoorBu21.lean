/- Lemmas under the proofs of this place: CellPCutM. No statement is proved here. -/
import Derived.Test.YtonnkibcnhjelaaGreatDoorBu18
import Derived.Test.YtonnkibcnhjelaaGreatDoorBu19
import Derived.Test.YtonnkibcnhjelaaGreatDoorBu13
import Derived.Test.YtonnkibcnhjelaaGreatDoorBu14
set_option linter.unusedVariables false
set_option linter.unusedSimpArgs false
namespace Go.Proofs.YtonnkibcnhjelaaGreatDoor
open Go.RowKit Go.Shelf
section
variable {V W : World} {row : Option Nat}
theorem blk_kept {g : Nat} {t : TypeId} {cs : Array Value} (h : Blk V g t cs) (hg : V.grownBy W row) (hr : ∀ r, row = some r → ∃ o : Obj, V.heap[r]? = some o ∧ o.isCells = false) : Blk W g t cs :=
  h.grown hg (fun e => by
    obtain ⟨o, ho, hc⟩ := hr g e.symm
    rw [show V.heap[g]? = _ from h] at ho
    cases ho
    cases hc)
theorem own_kept_ {base n size : Nat} {e : TypeId} {v : Value} {xs : List Value} (h : V.ownsRow base e size v n xs) (hg : V.grownBy W row) (hr : ∀ r, row = some r → ∃ o : Obj, V.heap[r]? = some o ∧ o.isCells = false) : W.ownsRow base e size v n xs := by
  refine ⟨h.1, ?_⟩
  rcases h.2 with h1 | ⟨g, cap, cur, rfl, h2, h3, h4⟩
  · exact .inl h1
  · exact .inr ⟨g, cap, cur, rfl, h2, blk_kept (t := e) h3 hg hr, h4⟩
theorem rb_kept {A : Option Addr} {L : List UInt8} (h : RB V V.heap.size A L) (hg : V.grownBy W row) (hr : ∀ r, row = some r → ∃ o : Obj, V.heap[r]? = some o ∧ o.isCells = false) : RB W W.heap.size A L := by
  refine ⟨h.1, fun h0 => ?_⟩
  obtain ⟨ad, e, hb, hc⟩ := h.2 h0
  exact ⟨ad, e, Nat.lt_of_lt_of_le hb hg.size, fun j u hu => cell_kept (hc j u hu) hg hr⟩
theorem turns_kept {U : World} {F : Nat → Prop} (h : Turns U V F F) (hg : V.grownBy W row) (hr : ∀ r, row = some r → U.heap.size ≤ r) : Turns U W F F :=
  ⟨hg.os.trans h.os, hg.tape.trans h.tape, hg.output.trans h.output, Nat.le_trans h.size hg.size,
   fun k hk hn => (hg.block k (Nat.lt_of_lt_of_le hk h.size) (fun e => by have := hr k e.symm; omega)).trans (h.block k hk hn), h.foot⟩
end
theorem keeps_turns {B : Nat} {V W : World} {F : Nat → Prop} (h : Turns V W F F) (hF : ∀ k, F k → ∃ t cs, Blk V k t cs) : KeepsFrom B V W :=
  ⟨h.size, fun k o _ hk ho => by
    by_cases hf : F k
    · obtain ⟨t, cs, hb⟩ := hF k hf
      rw [show V.heap[k]? = _ from hb] at hk
      cases hk
      cases ho
    · exact (h.block k (Array.getElem?_eq_some_iff.1 hk).1 hf).trans hk⟩
theorem own_base {W : World} {base g n c size : Nat} {e : TypeId} {xs : List Value} (h : W.ownsRow base e size (.slice (some ⟨g, 0, none⟩) n c) n xs) : W.ownsRow g e size (.slice (some ⟨g, 0, none⟩) n c) n xs := by
  refine ⟨h.1, ?_⟩
  rcases h.2 with h1 | ⟨g', cap, cur, he, h2, h3⟩
  · exact .inl h1
  · have : g' = g := by
      simp only [Value.slice.injEq, Option.some.injEq, Addr.mk.injEq] at he
      exact he.1.1.symm
    subst this
    exact .inr ⟨g', cap, cur, he, Nat.le_refl _, h3⟩
theorem keepsAt_b {B : Nat} {w : World} (hB : B < w.heap.size) (W : World) (l : Nat) (o o' : Obj) (hl : w.heap.size ≤ l) (h : W.heap[l]? = some o) (_ : o.isCells = false) (_ : o.isWalk = false) : KeepsAt B W (W.putObj l o') :=
  World.cell?_of_block ((grownBy_putObj' W l o').block B (by have := (Array.getElem?_eq_some_iff.1 h).1; omega) (fun e => by cases e; omega))
structure CutE (w W8 : World) (o : Int) (ps : List Int) (t : List UInt8) (np n cB tb tf gN cN bn gr bl bt : Nat) : Prop where
  hn : n = t.length
  hp : np = ps.length
  hN : np = needC n
  h1 : 1 ≤ n
  hl : n ≤ 262144
  hc : n ≤ cB
  place : ps.any (fun p => !placeOk p) = false
  ord : w.heap.size + 2 < bn ∧ bn < gr ∧ gr < bl ∧ bl < bt ∧ bt < W8.heap.size ∧ w.heap.size + 2 < gN ∧ gN < bn
  b0 : Blk W8 w.heap.size 3 #[.int .i64 o]
  b1 : Blk W8 (w.heap.size + 1) 58 #[.slice none 0 0]
  b2 : Blk W8 (w.heap.size + 1 + 1) 25 #[.int .i64 0]
  bN : Blk W8 bn 38 #[.slice (some ⟨gN, 0, none⟩) np cN]
  nx : ∀ i, i < np → W8.cell? ⟨gN, i, none⟩ = some (.int .i64 (ps.getD (i + 1) 0))
  bL : Blk W8 bl 58 #[.slice (some ⟨gr, 0, none⟩) 0 np]
  own : W8.ownsRow gr 64 4 (.slice (some ⟨gr, 0, none⟩) 0 np) 0 []
  bT : W8.cell? ⟨bt, 0, none⟩ = some (.slice (some ⟨tb, tf, none⟩) n cB)
  below : Below w.heap.size w W8
  text : RB w w.heap.size (some ⟨tb, tf, none⟩) t
def cutF (gr bl : Nat) (k : Nat) : Prop := k = bl ∨ k = gr
def CutI (W8 : World) (o : Int) (ps : List Int) (t : List UInt8) (np gr bl : Nat) (js : List Nat) (W : World) : Prop :=
  Turns W8 W (cutF gr bl) (cutF gr bl) ∧ Blk W bl 58 #[.slice (some ⟨gr, 0, none⟩) js.length np] ∧ (∀ j ∈ js, (cutAt o ps t j).may = true) ∧
    ∃ rows, W.ownsRow gr 64 4 (.slice (some ⟨gr, 0, none⟩) js.length np) js.length (rowE rows) ∧ rows.length = js.length ∧ rows.map (·.1) = js.map (cutAt o ps t) ∧ ∀ x ∈ rows, RB W W.heap.size x.2.1 x.1.data ∧ ∀ ad, x.2.1 = some ad → W8.heap.size ≤ ad.block
def cutG (s gr bl : Nat) (k : Nat) : Prop := k = bl ∨ k = gr ∨ k = s + 1 ∨ k = s + 1 + 1
def CutX (W8 : World) (s : Nat) (o : Int) (ps : List Int) (t : List UInt8) (np gr bl : Nat) (c : Code) (W : World) : Prop :=
  c = .ret ∧ Turns W8 W (cutG s gr bl) (cutG s gr bl) ∧ Blk W (s + 1) 58 #[.slice none 0 0] ∧ Blk W (s + 1 + 1) 25 #[.int .i64 1] ∧ ∃ i, i < np ∧ (cutAt o ps t i).may = false
theorem cutI_own {β : Type} (f : β → List Nat) (W8 : World) (o : Int) (ps : List Int) (t : List UInt8) (np gr bl : Nat) : OwnFrom W8.heap.size (fun s W => CutI W8 o ps t np gr bl (f s) W) := by
  rintro s V W row ⟨h1, h2, h3, rows, h4, h5, h6, h7⟩ hg hr
  have hr' : ∀ r, row = some r → ∃ o : Obj, V.heap[r]? = some o ∧ o.isCells = false := fun r e => (hr r e).2
  exact ⟨turns_kept h1 hg (fun r e => (hr r e).1), blk_kept h2 hg hr', h3, rows, own_kept_ h4 hg hr', h5, h6, fun x hx => ⟨rb_kept (h7 x hx).1 hg hr', (h7 x hx).2⟩⟩
theorem cutX_own {β : Type} (W8 : World) (s : Nat) (o : Int) (ps : List Int) (t : List UInt8) (np gr bl : Nat) (c : Code) : OwnFrom W8.heap.size (fun (_ : β) W => CutX W8 s o ps t np gr bl c W) := by
  rintro _ V W row ⟨h1, h2, h3, h4, h5⟩ hg hr
  have hr' : ∀ r, row = some r → ∃ o : Obj, V.heap[r]? = some o ∧ o.isCells = false := fun r e => (hr r e).2
  exact ⟨h1, turns_kept h2 hg (fun r e => (hr r e).1), blk_kept h3 hg hr', blk_kept h4 hg hr', h5⟩
section
variable {w W8 W : World} {o : Int} {ps : List Int} {t : List UInt8} {np n cB tb tf gN cN bn gr bl bt : Nat} {js : List Nat}
theorem CutE.start (h : CutE w W8 o ps t np n cB tb tf gN cN bn gr bl bt) : CutI W8 o ps t np gr bl [] W8 :=
  ⟨Turns.refl _ _, h.bL, fun j hj => (by cases hj), [], h.own, rfl, rfl, fun x hx => (by cases hx)⟩
theorem CutE.far (h : CutE w W8 o ps t np n cB tb tf gN cN bn gr bl bt) : ¬ cutF gr bl w.heap.size ∧ ¬ cutF gr bl (w.heap.size + 1) ∧ ¬ cutF gr bl (w.heap.size + 1 + 1) ∧ ¬ cutF gr bl bn ∧ ¬ cutF gr bl gN ∧ ¬ cutF gr bl bt := by
  obtain ⟨a1, a2, a3, a4, a5, a6, a7⟩ := h.ord
  unfold cutF
  refine ⟨?_, ?_, ?_, ?_, ?_, ?_⟩ <;> omega
theorem CutE.reads (h : CutE w W8 o ps t np n cB tb tf gN cN bn gr bl bt) (hi : CutI W8 o ps t np gr bl js W) {V : World} (hV : Below W.heap.size W V) {i : Nat} (hin : i < np) :
    V.cell? ⟨w.heap.size, 0, none⟩ = some (.int .i64 o) ∧ V.cell? ⟨bn, 0, none⟩ = some (.slice (some ⟨gN, 0, none⟩) np cN) ∧ V.cell? ⟨gN, i, none⟩ = some (.int .i64 (ps.getD (i + 1) 0)) := by
  obtain ⟨a1, a2, a3, a4, a5, a6, a7⟩ := h.ord
  obtain ⟨f0, f1, f2, fn, fN, ft⟩ := h.far
  have hs := hi.1.size
  refine ⟨?_, ?_, ?_⟩
  · rw [hV.cell (p := ⟨w.heap.size, 0, none⟩) (by show w.heap.size < _; omega), hi.1.cell (p := ⟨w.heap.size, 0, none⟩) (by show w.heap.size < _; omega) f0]
    exact h.b0.cell 0
  · rw [hV.cell (p := ⟨bn, 0, none⟩) (by show bn < _; omega), hi.1.cell (p := ⟨bn, 0, none⟩) (by show bn < _; omega) fn]
    exact h.bN.cell 0
  · rw [hV.cell (p := ⟨gN, i, none⟩) (by show gN < _; omega), hi.1.cell (p := ⟨gN, i, none⟩) (by show gN < _; omega) fN]
    exact h.nx i hin
theorem CutE.low (h : CutE w W8 o ps t np n cB tb tf gN cN bn gr bl bt) (hi : Turns W8 W (cutF gr bl) (cutF gr bl)) : Below w.heap.size w W := by
  obtain ⟨a1, a2, a3, a4, a5, a6, a7⟩ := h.ord
  exact h.below.trans (hi.below (fun k hk => by unfold cutF at hk; omega) (by omega))
def partN (n i : Nat) : Nat := if n < i * 242 + 242 then n - i * 242 else 242
theorem CutE.part (h : CutE w W8 o ps t np n cB tb tf gN cN bn gr bl bt) {i : Nat} (hin : i < np) : partN n i = ((t.drop (242 * i)).take 242).length ∧ (cutAt o ps t i).data.length = partN n i ∧ partN n i ≤ 242 ∧ 242 * i < n := by
  have h1 := h.hN
  have h2 := h.hn
  unfold needC at h1
  have e : ((t.drop (242 * i)).take 242).length = min 242 (t.length - 242 * i) := by rw [List.length_take, List.length_drop]
  have e2 : partN n i = min 242 (t.length - 242 * i) := by unfold partN; split <;> omega
  exact ⟨by rw [e, e2], by rw [e2, ← e]; rfl, by rw [e2]; omega, by omega⟩
theorem CutE.bytes (h : CutE w W8 o ps t np n cB tb tf gN cN bn gr bl bt) (hi : CutI W8 o ps t np gr bl js W) {V : World} (hV : Below W.heap.size W V) {i : Nat} (hin : i < np) : RB V V.heap.size (some ⟨tb, tf + i * 242, none⟩) (cutAt o ps t i).data := by
  obtain ⟨p1, p2, p3, p4⟩ := h.part hin
  have hb : Below w.heap.size w V := (h.low hi.1).trans (hV.mono (h.low hi.1).size)
  have hr := rb_up7 h.text hb
  have hq : (cutAt o ps t i).data = (t.drop (i * 242)).take (partN n i) := by
    show (t.drop (242 * i)).take 242 = _
    rw [Nat.mul_comm i 242, p1]
    apply List.take_eq_take_iff.2
    simp
  rw [hq]
  exact sub_rb hr (i * 242) (partN n i) (by rw [← h.hn]; rw [← p2]; show _ + ((t.drop (242 * i)).take 242).length ≤ _; rw [List.length_take, List.length_drop, ← h.hn]; omega) (Nat.lt_succ_self _)
end
end Go.Proofs.YtonnkibcnhjelaaGreatDoor
