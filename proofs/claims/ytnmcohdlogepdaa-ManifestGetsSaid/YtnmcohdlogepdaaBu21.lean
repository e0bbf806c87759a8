/- Lemmas under the proofs of this place: ManRGet, ManPSame. No statement is proved here. -/
import Derived.Test.YtnmcohdlogepdaaBu17
import Derived.Test.YtnmcohdlogepdaaBu19
import Derived.Test.YtnmcohdlogepdaaBu18
import Derived.Test.YtnmcohdlogepdaaBu04
import Derived.Test.YtnmcohdlogepdaaBu11
import Derived.BigQuiet
section
set_option linter.unusedVariables false
set_option linter.unusedSimpArgs false
namespace Go.Proofs.Ytnmcohdlogepdaa
open Go.RowKit
structure GV (w W : World) (g2 gd gm B : Nat) (A : Option Addr) (M : List UInt8) (c : Nat) (st : St) (ms : List Pt) (sn : Pt) (y0 y1 y2 : Value) (A' : Option Addr) (c' : Nat) : Prop where
  below : Below w.heap.size w W
  k2 : Blk W g2 29 #[.slice none 0 0, .int .i64 0, .int .i64 0, .int .i64 0]
  kd : Blk W gd 51 #[y0, y1, y2]
  rd : RefV A M c (.agg #[y0, y1, y2]) st
  km : Blk W gm 29 #[.slice A' ms.length c', .int .i64 sn.f, .int .i64 sn.s, .int .i64 sn.o]
  own : W.ownsRow B 27 3 (.slice A' ms.length c') ms.length (ptCells ms)
  ord : w.heap.size ≤ g2 ∧ g2 < gd ∧ gd < gm ∧ gm < B ∧ B ≤ W.heap.size
section
variable {w W W' : World} {g2 gd gm B : Nat} {A : Option Addr} {M : List UInt8} {c : Nat} {st st' : St} {ms : List Pt} {sn : Pt} {y0 y1 y2 v0 v1 v2 : Value} {A' : Option Addr} {c' : Nat}
theorem pown_kept {base n : Nat} {v : Value} {xs : List Value} (h : W.ownsRow base 27 3 v n xs) (hb : Below W.heap.size W W') : W'.ownsRow base 27 3 v n xs :=
  World.ownsRow.kept h (row := none) ⟨hb.os, hb.tape, hb.output, hb.size, fun i hi _ => hb.block i hi⟩ (Classical.em _)
theorem GV.up (h : GV w W g2 gd gm B A M c st ms sn y0 y1 y2 A' c') (hb : Below W.heap.size W W') : GV w W' g2 gd gm B A M c st ms sn y0 y1 y2 A' c' :=
  ⟨chainM h.below hb, h.k2.below hb h.k2.lt, h.kd.below hb h.kd.lt, h.rd, h.km.below hb h.km.lt, pown_kept h.own hb, by have := h.ord; have := hb.size; omega⟩
theorem own_block_ge {base n : Nat} {e : TypeId} {size : Nat} {v : Value} {xs : List Value} (h : W.ownsRow base e size v n xs) {k : Nat} (hk : v.ownBlock = some k) : base ≤ k := (h.lt k hk).1
theorem GV.far (h : GV w W g2 gd gm B A M c st ms sn y0 y1 y2 A' c') {g i : Nat} {u : Value} (hg : g < B) : (W.setCell ⟨g, i, none⟩ u).ownsRow B 27 3 (.slice A' ms.length c') ms.length (ptCells ms) :=
  own_turns h.own (Turns.set_ (F := fun j => j = g) rfl i u) fun k hk e => by have := own_block_ge h.own hk; omega
theorem GV.setd (h : GV w W g2 gd gm B A M c st ms sn y0 y1 y2 A' c') (hv : RefV A M c (.agg #[v0, v1, v2]) st') : GV w (((W.setCell ⟨gd, 0, none⟩ v0).setCell ⟨gd, 1, none⟩ v1).setCell ⟨gd, 2, none⟩ v2) g2 gd gm B A M c st' ms sn v0 v1 v2 A' c' := by
  obtain ⟨o1, o2, o3, o4, o5⟩ := h.ord
  have ht : Turns W (((W.setCell ⟨gd, 0, none⟩ v0).setCell ⟨gd, 1, none⟩ v1).setCell ⟨gd, 2, none⟩ v2) (fun j => j = gd) (fun j => j = gd) := ((Turns.set_ (F := fun j => j = gd) rfl 0 v0).trans (Turns.set_ (F := fun j => j = gd) rfl 1 v1)).trans (Turns.set_ (F := fun j => j = gd) rfl 2 v2)
  refine ⟨below3 h.below (by omega) _ _ _, h.k2.turns ht (by omega), ?_, hv, h.km.turns ht (by omega), own_turns h.own ht fun k hk e => by have := own_block_ge h.own hk; omega, ⟨o1, o2, o3, o4, by simpa [World.setCell] using o5⟩⟩
  have := ((h.kd.set_ 0 v0).set_ 1 v1).set_ 2 v2
  simpa using this
theorem GV.cells (h : GV w W g2 gd gm B A M c st ms sn y0 y1 y2 A' c') : (W.cell? ⟨gd, 0, none⟩ = some y0 ∧ W.cell? ⟨gd, 1, none⟩ = some y1 ∧ W.cell? ⟨gd, 2, none⟩ = some y2) ∧ (W.cell? ⟨gm, 0, none⟩ = some (.slice A' ms.length c') ∧ W.cell? ⟨gm, 1, none⟩ = some (.int .i64 sn.f) ∧ W.cell? ⟨gm, 2, none⟩ = some (.int .i64 sn.s) ∧ W.cell? ⟨gm, 3, none⟩ = some (.int .i64 sn.o)) ∧ (∀ k, W.frozen? ⟨gd, k, none⟩ = false) ∧ (∀ k, W.frozen? ⟨gm, k, none⟩ = false) ∧ gd < W.heap.size ∧ gm < W.heap.size :=
  ⟨⟨by rw [h.kd.cell]; rfl, by rw [h.kd.cell]; rfl, by rw [h.kd.cell]; rfl⟩, ⟨by rw [h.km.cell]; rfl, by rw [h.km.cell]; rfl, by rw [h.km.cell]; rfl, by rw [h.km.cell]; rfl⟩, fun k => h.kd.frozen k, fun k => h.km.frozen k, h.kd.lt, h.km.lt⟩
theorem pown_form {base n : Nat} {v : Value} {xs : List Value} (h : W.ownsRow base 27 3 v n xs) : ∃ A c, v = .slice A n c := by
  rcases h.2 with ⟨rfl, rfl⟩ | ⟨g, cap, cur, rfl, _⟩
  · exact ⟨none, 0, rfl⟩
  · exact ⟨_, _, rfl⟩
theorem GV.app (h : GV w W g2 gd gm B A M c st ms sn y0 y1 y2 A' c') {p : Pt} {A9 : Option Addr} {c9 q : Nat} (hg : W.grownBy W' (Value.slice A' ms.length c').ownBlock) (hq : q = ms.length + 1) (ho : W'.ownsRow B 27 3 (.slice A9 q c9) q (ptCells ms ++ ptCells [p])) :
    (W'.cell? ⟨gm, 0, none⟩ = some (.slice A' ms.length c') ∧ W'.frozen? ⟨gm, 0, none⟩ = false ∧ gm < W'.heap.size) ∧ GV w (W'.setCell ⟨gm, 0, none⟩ (.slice A9 q c9)) g2 gd gm B A M c st (ms ++ [p]) sn y0 y1 y2 A9 c9 := by
  obtain ⟨o1, o2, o3, o4, o5⟩ := h.ord
  have ht : Turns W W' (fun j => B ≤ j) (fun j => B ≤ j) := Turns.grown hg fun k hk => own_block_ge h.own hk
  have hz := ht.size
  have hb : Below w.heap.size w W' := h.below.trans (ht.below (fun k hk => by have h1 : B ≤ k := hk; omega) h.below.size)
  have k2 := h.k2.turns ht (by omega)
  have kd := h.kd.turns ht (by omega)
  have km := h.km.turns ht (by omega)
  have hl : (ms ++ [p]).length = q := by rw [List.length_append, hq]; rfl
  have ht2 : Turns W' (W'.setCell ⟨gm, 0, none⟩ (.slice A9 q c9)) (fun j => j = gm) (fun j => j = gm) := Turns.set_ (F := fun j => j = gm) rfl 0 _
  refine ⟨⟨by rw [km.cell]; rfl, km.frozen 0, km.lt⟩, hb.setCell (show w.heap.size ≤ gm by omega) _, k2.turns ht2 (by omega), kd.turns ht2 (by omega), h.rd, ?_, ?_, ⟨o1, o2, o3, o4, by simp [World.setCell]; omega⟩⟩
  · have := km.set_ 0 (.slice A9 q c9)
    rw [hl]
    simpa using this
  · rw [hl, ptCells_append]
    exact own_turns ho ht2 fun k hk e => by have e' : k = gm := e; have := own_block_ge ho hk; omega
theorem blk4 {g : Nat} {t : TypeId} {a b d e : Value} (h : Blk W g t #[a, b, d, e]) : W.cell? ⟨g, 0, none⟩ = some a ∧ W.cell? ⟨g, 1, none⟩ = some b ∧ W.cell? ⟨g, 2, none⟩ = some d ∧ W.cell? ⟨g, 3, none⟩ = some e :=
  ⟨by rw [h.cell]; rfl, by rw [h.cell]; rfl, by rw [h.cell]; rfl, by rw [h.cell]; rfl⟩
theorem blk3 {g : Nat} {t : TypeId} {a b d : Value} (h : Blk W g t #[a, b, d]) : W.cell? ⟨g, 0, none⟩ = some a ∧ W.cell? ⟨g, 1, none⟩ = some b ∧ W.cell? ⟨g, 2, none⟩ = some d :=
  ⟨by rw [h.cell]; rfl, by rw [h.cell]; rfl, by rw [h.cell]; rfl⟩
theorem refv_bool {a b : Value} {x : Bool} (h : RefV A M c (.agg #[a, b, .bool x]) st) : x = st.isNone := by
  rcases st with _ | L
  · have h' : Value.agg #[a, b, .bool x] = .agg #[.slice none 0 0, .int .i64 0, .bool true] := h
    simp only [Value.agg.injEq, Array.mk.injEq, List.cons.injEq, Value.bool.injEq, and_true] at h'
    exact h'.2.2
  · obtain ⟨k, h', _⟩ := h
    simp only [Value.agg.injEq, Array.mk.injEq, List.cons.injEq, Value.bool.injEq, and_true] at h'
    exact h'.2.2
theorem turns_far12 {F F' : Nat → Prop} {gr i : Nat} {v : Value} (ht : Turns w W F F') (hg : w.heap.size ≤ gr) : Turns w (W.setCell ⟨gr, i, none⟩ v) F F' := by
  have h2 : Turns W (W.setCell ⟨gr, i, none⟩ v) (fun k => k = gr) (fun k => k = gr) := Turns.set_ (F := fun k => k = gr) rfl i v
  refine ⟨ht.os, ht.tape, ht.output, Nat.le_trans ht.size h2.size, fun k hk hn => ?_, fun k hk => ht.foot k hk⟩
  exact (h2.block k (Nat.lt_of_lt_of_le hk ht.size) (show ¬ k = gr by omega)).trans (ht.block k hk hn)
theorem GV.seen (h : GV w W g2 gd gm B A M c st ms sn y0 y1 y2 A' c') (hms : ms.length ≤ 9) (ht : Turns W W' (fun j => j = gm) (fun j => j = gm)) : (∀ sn', MfAt W' ⟨ms, sn'⟩ A' c') ∧ Below w.heap.size w W' ∧ Blk W' g2 29 #[.slice none 0 0, .int .i64 0, .int .i64 0, .int .i64 0] ∧ w.heap.size ≤ g2 ∧ ∀ ad, A' = some ad → ad.block ≠ g2 := by
  obtain ⟨o1, o2, o3, o4, o5⟩ := h.ord
  have ho := own_turns h.own ht fun k hk e => by have e' : k = gm := e; have := own_block_ge h.own hk; omega
  have hp : PtL W' W'.heap.size A' ms := by
    obtain ⟨A1, c1, e1, h1⟩ := pt_own rfl ho
    simp only [Value.slice.injEq] at e1
    obtain ⟨rfl, -, -⟩ := e1
    exact h1
  have hcap : ms.length ≤ c' ∧ c' ≤ 9223372036854775807 := by
    rcases ho.2 with ⟨e1, e2⟩ | ⟨g, cap, cur, e1, _, _, h3, h4, _⟩
    · simp only [Value.slice.injEq] at e1; omega
    · simp only [Value.slice.injEq] at e1
      obtain ⟨-, -, rfl⟩ := e1
      unfold maxLen at h4
      exact ⟨h3, by omega⟩
  refine ⟨fun sn' => ⟨hp, hcap, by show ms.length ≤ 1000; omega⟩, h.below.trans (ht.below (fun k hk => by have e' : k = gm := hk; omega) h.below.size), h.k2.turns ht (by omega), o1, fun ad e => ?_⟩
  rcases ho.2 with ⟨e1, _⟩ | ⟨g, cap, cur, e1, h2, _⟩
  · simp only [Value.slice.injEq] at e1; rw [e1.1] at e; cases e
  · simp only [Value.slice.injEq] at e1
    rw [e1.1] at e
    injection e with e
    subst e
    show g ≠ g2
    omega
theorem snap_set {w9 : World} {gf : Nat} {f0 f1 f2 : Value} (h : GV w W g2 gd gm B A M c st ms sn y0 y1 y2 A' c') (hb : Below W.heap.size W w9) (hgf : W.heap.size ≤ gf) (Kf : Blk w9 gf 51 #[f0, f1, f2]) (a0 a1 a2 b1 b2 b3 : Value) (o p : Obj) :
    Turns W ((((((((w9.setCell ⟨gf, 0, none⟩ a0).setCell ⟨gf, 1, none⟩ a1).setCell ⟨gf, 2, none⟩ a2).setCell ⟨gm, 1, none⟩ b1).setCell ⟨gm, 2, none⟩ b2).setCell ⟨gm, 3, none⟩ b3).alloc o).alloc p) (fun j => j = gm) (fun j => j = gm) ∧
    Blk ((((((((w9.setCell ⟨gf, 0, none⟩ a0).setCell ⟨gf, 1, none⟩ a1).setCell ⟨gf, 2, none⟩ a2).setCell ⟨gm, 1, none⟩ b1).setCell ⟨gm, 2, none⟩ b2).setCell ⟨gm, 3, none⟩ b3).alloc o).alloc p) gf 51 #[a0, a1, a2] ∧
    Blk ((((((((w9.setCell ⟨gf, 0, none⟩ a0).setCell ⟨gf, 1, none⟩ a1).setCell ⟨gf, 2, none⟩ a2).setCell ⟨gm, 1, none⟩ b1).setCell ⟨gm, 2, none⟩ b2).setCell ⟨gm, 3, none⟩ b3).alloc o).alloc p) gm 29 #[.slice A' ms.length c', b1, b2, b3] := by
  obtain ⟨o1, o2, o3, o4, o5⟩ := h.ord
  have hne : gf ≠ gm := by omega
  have hne' : gm ≠ gf := by omega
  refine ⟨?_, ?_, ?_⟩
  · exact ((((((turns_far12 (turns_far12 (turns_far12 (Turns.of_below hb (fun j => j = gm)) hgf) hgf) hgf).trans (Turns.set_ (F := fun j => j = gm) rfl 1 b1)).trans (Turns.set_ (F := fun j => j = gm) rfl 2 b2)).trans (Turns.set_ (F := fun j => j = gm) rfl 3 b3)).trans (Turns.alloc o _)).trans (Turns.alloc p _))
  · have K := ((Kf.set_ 0 a0).set_ 1 a1).set_ 2 a2
    have K := Blk.far (p := ⟨gm, 3, none⟩) (Blk.far (p := ⟨gm, 2, none⟩) (Blk.far (p := ⟨gm, 1, none⟩) K hne b1) hne b2) hne b3
    have K := (K.alloc o).alloc p
    simpa using K
  · have K := Blk.far (p := ⟨gf, 2, none⟩) (Blk.far (p := ⟨gf, 1, none⟩) (Blk.far (p := ⟨gf, 0, none⟩) (h.km.below hb h.km.lt) hne' a0) hne' a1) hne' a2
    have K := ((K.set_ 1 b1).set_ 2 b2).set_ 3 b3
    have K := (K.alloc o).alloc p
    simpa using K
theorem man_end {E : World} {v0 v1 v2 v3 a0 a1 a2 a3 : Value} (hb : Below w.heap.size w W) (K : Blk W g2 29 #[a0, a1, a2, a3]) (hg : w.heap.size ≤ g2) (hE : E = (((W.setCell ⟨g2, 0, none⟩ v0).setCell ⟨g2, 1, none⟩ v1).setCell ⟨g2, 2, none⟩ v2).setCell ⟨g2, 3, none⟩ v3) :
    (E.cell? ⟨g2, 0, none⟩ = some v0 ∧ E.cell? ⟨g2, 1, none⟩ = some v1 ∧ E.cell? ⟨g2, 2, none⟩ = some v2 ∧ E.cell? ⟨g2, 3, none⟩ = some v3) ∧ Below w.heap.size w E ∧ ∀ m A' c', MfAt W m A' c' → (∀ ad, A' = some ad → ad.block ≠ g2) → MfAt E m A' c' := by
  have K' := (((K.set_ 0 v0).set_ 1 v1).set_ 2 v2).set_ 3 v3
  have ht : Turns W E (fun j => j = g2) (fun j => j = g2) := by
    rw [hE]
    exact (((Turns.set_ (F := fun j => j = g2) rfl 0 v0).trans (Turns.set_ (F := fun j => j = g2) rfl 1 v1)).trans (Turns.set_ (F := fun j => j = g2) rfl 2 v2)).trans (Turns.set_ (F := fun j => j = g2) rfl 3 v3)
  rw [← hE] at K'
  refine ⟨⟨by rw [K'.cell]; rfl, by rw [K'.cell]; rfl, by rw [K'.cell]; rfl, by rw [K'.cell]; rfl⟩, hb.trans (ht.below (fun k hk => by have e : k = g2 := hk; omega) hb.size), fun m A' c' h hA => ⟨fun h0 => ?_, h.cap, h.few⟩⟩
  obtain ⟨b, off, e, hlt, hc⟩ := h.segs h0
  have hne := hA _ e
  refine ⟨b, off, e, Nat.lt_of_lt_of_le hlt ht.size, fun i hi => ?_⟩
  obtain ⟨c0, c1, c2⟩ := hc i hi
  exact ⟨(ht.cell (p := ⟨b, off + i * 3, none⟩) hlt hne).trans c0, (ht.cell (p := ⟨b, off + i * 3 + 1, none⟩) hlt hne).trans c1, (ht.cell (p := ⟨b, off + i * 3 + 2, none⟩) hlt hne).trans c2⟩
theorem get_no {b own : List UInt8} {m : Mf} {X : List UInt8} {G : Int} (hp : Mf.get b = if st.isSome = true ∧ m.check = 0 ∧ sealL m.own = b then (m, 0) else (Mf.zero, 5)) (hX : Mf.put m = (X, G)) (h : st.isNone = true ∨ G ≠ 0 ∨ X ≠ b) : Mf.get b = (Mf.zero, 5) := by
  rw [hp, if_neg]
  rintro ⟨h1, h2, h3⟩
  unfold Mf.put at hX
  rw [if_pos h2] at hX
  simp only [Prod.mk.injEq] at hX
  rcases h with h | h | h
  · cases st with
    | none => cases h1
    | some _ => cases h
  · exact h hX.2.symm
  · exact h (hX.1.symm.trans h3)
theorem get_ok {b own : List UInt8} {m : Mf} {X : List UInt8} {G : Int} (hp : Mf.get b = if st.isSome = true ∧ m.check = 0 ∧ sealL m.own = b then (m, 0) else (Mf.zero, 5)) (hX : Mf.put m = (X, G)) (h1 : st.isNone = false) (h2 : G = 0) (h3 : X = b) : Mf.get b = (m, 0) := by
  have hc : m.check = 0 := by
    by_cases h : m.check = 0
    · exact h
    · unfold Mf.put at hX
      rw [if_neg h] at hX
      simp only [Prod.mk.injEq] at hX
      exact absurd (hX.2.trans h2) h
  rw [hp, if_pos]
  refine ⟨by cases st with | none => cases h1 | some _ => rfl, hc, ?_⟩
  unfold Mf.put at hX
  rw [if_pos hc] at hX
  simp only [Prod.mk.injEq] at hX
  exact hX.1.trans h3
end
theorem mfAt_zero (w : World) : MfAt w Mf.zero none 0 := ⟨fun h => absurd h (by simp [Mf.zero]), ⟨Nat.le_refl _, by decide⟩, by simp [Mf.zero]⟩
set_option maxRecDepth 100000 in
set_option maxHeartbeats 8000000 in
theorem rmget_any (b : List UInt8) (A : Option Addr) (c : Nat) (w : World) (hr : RB w w.heap.size A b) (hc : b.length ≤ c) (hcm : c ≤ 9223372036854775807) (hl : b.length ≤ 1000) : Calls Try.prog 7 #[.slice A b.length c] w (GivesMf (Mf.get b) w) := by
  obtain ⟨n, hn⟩ : ∃ n, n = b.length := ⟨_, rfl⟩
  have z0 := fun w' => Try.manZero w'
  cases ho : openL b with
  | none =>
    have HG : Hid (Mf.get b = (Mf.zero, 12)) := by show _ = _; unfold Mf.get; rw [ho]
    have HO : Hid (∀ W, Below w.heap.size w W → Calls Try.prog 22 #[.slice A n c] W fun e w' => e = .returned (.tuple #[.slice none 0 0, .int .i64 12]) ∧ Below W.heap.size W w') := fun W hb => by
      have := refOpen_any b A c w.heap.size W (hr.below hb) hc hcm (by omega)
      rw [ho, ← hn] at this
      exact this
    rw [← hn]
    clear hn hr ho
    go_enter Try.func7, Try.ntmps7
    go_wp2_with (go_at_call 22; (with_reducible refine (HO.out _ ((Below.refl _ _).alloc (Nat.le_refl _) _)).mono ?_); rintro e w1 ⟨rfl, hb1⟩; obtain ⟨q0, q1, q2, q3⟩ := man_at w w1 none 0 0 0 0 0 hb1; obtain ⟨hc1, hf1⟩ := bcell hb1)
    have K := Blk.below (Blk.new w 29 #[.slice none 0 0, .int .i64 0, .int .i64 0, .int .i64 0]) hb1 (by simp)
    have K := (((K.set_ 0 (.slice none 0 0)).set_ 1 (.int .i64 0)).set_ 2 (.int .i64 0)).set_ 3 (.int .i64 0)
    obtain ⟨E, hE⟩ : ∃ E, E = ((((w1.setCell ⟨w.heap.size, 0, none⟩ (.slice none 0 0)).setCell ⟨w.heap.size, 1, none⟩ (.int .i64 0)).setCell ⟨w.heap.size, 2, none⟩ (.int .i64 0)).setCell ⟨w.heap.size, 3, none⟩ (.int .i64 0)) := ⟨_, rfl⟩
    have hbw := chainM ((Below.refl _ _).alloc (Nat.le_refl _) _) hb1
    have hbE : Below w.heap.size w E := by rw [hE]; exact (((hbw.setCell (Nat.le_refl _) _).setCell (Nat.le_refl _) _).setCell (Nat.le_refl _) _).setCell (Nat.le_refl _) _
    rw [← hE] at K ⊢
    have r0 : E.cell? ⟨w.heap.size, 0, none⟩ = some (.slice none 0 0) := by rw [K.cell]; rfl
    have r1 : E.cell? ⟨w.heap.size, 1, none⟩ = some (.int .i64 0) := by rw [K.cell]; rfl
    have r2 : E.cell? ⟨w.heap.size, 2, none⟩ = some (.int .i64 0) := by rw [K.cell]; rfl
    have r3 : E.cell? ⟨w.heap.size, 3, none⟩ = some (.int .i64 0) := by rw [K.cell]; rfl
    refine bodyPost_ret (v := .tuple #[.agg #[.slice none 0 0, .int .i64 0, .int .i64 0, .int .i64 0], .int .i64 12]) (by simp [results, Try.results7, go_sem, r0, r1, r2, r3]) rfl ?_
    rw [HG.out]
    exact ⟨none, 0, rfl, mfAt_zero E, hbE⟩
  | some M =>
    have hM : M.length + 4 = b.length := (openL_some ho).2
    have HO : Hid (∀ W, Below w.heap.size w W → Calls Try.prog 22 #[.slice A n c] W fun e w' => e = .returned (.tuple #[.slice A M.length c, .int .i64 0]) ∧ Below W.heap.size W w') := fun W hb => by
      have := refOpen_view b M A c W ((hr.below hb).more hb.size) hc hcm (by omega) ho
      rw [← hn] at this
      exact this
    have hrM : RB w w.heap.size A M := by
      have e : M = b.take M.length := by
        unfold openL at ho
        split at ho
        · injection ho with ho; rw [← ho]; simp
        · cases ho
      rw [e]
      exact rb_take hr _ (by omega)
    have hcM : M.length ≤ c := by omega
    have hlM : M.length ≤ 1048576 := by omega
    have HF : Hid (∀ W, Calls Try.prog 24 #[.slice A M.length c] W fun e w' => e = .returned (.agg #[.slice A M.length c, .int .i64 0, .bool false]) ∧ Below W.heap.size W w') := fun W => refFrom_any A M.length c W
    have HTx : Hid (∀ W, Below w.heap.size w W → Calls Try.prog 23 #[.agg #[.slice A M.length c, .int .i64 0, .bool false]] W (GivesRefB A M c w.heap.size (stepText (some M)) W)) := fun W hb => refTakeText_any A M c w.heap.size _ (some M) W ⟨0, rfl, Nat.zero_le _, rfl⟩ (hrM.below hb) hb.size hcM hlM
    have HNum : Hid (∀ W v st, RefV A M c v st → Below w.heap.size w W → Calls Try.prog 25 #[v] W (GivesRefN A M c (stepNum st) W)) := fun W v st hv hb => refNum_any A M c w.heap.size v st W hv (hrM.below hb) hb.size hcM hlM
    have HTk : Hid (∀ W v st, RefV A M c v st → Below w.heap.size w W → Calls Try.prog 26 #[v] W (GivesRefP A M c (stepPt st) W)) := fun W v st hv hb => rtake_any A M c w.heap.size v st W hv (hrM.below hb) hb.size hcM hlM
    have HP := Lib.hid (get_proc ho)
    obtain ⟨s0, hs0⟩ : ∃ s, s = stepText (some M) := ⟨_, rfl⟩
    have HS0 := Lib.hid hs0
    rw [← hs0] at HTx
    obtain ⟨d1, m1⟩ := s0
    obtain ⟨s1, n1, e1⟩ : ∃ s n, stepNum d1 = (s, n) := ⟨_, _, rfl⟩
    have HE1 := Lib.hid e1
    rw [← hn]
    have HN := Lib.hid hn
    have HSB : Hid (∀ W, Below w.heap.size w W → (convert 22 9 (.slice A n c)).run Try.prog W = .ok (.string ⟨b.toArray⟩) W) := fun W hb => aw_str ((hr.below hb).more hb.size) n c hn
    clear hs0 e1 hrM hM hr ho hn
    have z1 := fun w' => Try.partBuild0 w'
    obtain ⟨i0, hi0, hz0, hz1, hz2⟩ := info_parts Try.partInfo
    go_enter Try.func7, Try.ntmps7
    go_wp2_with (first
      | (go_at_call 22; (with_reducible refine (HO.out _ ((Below.refl _ _).alloc (Nat.le_refl _) _)).mono ?_); rintro e w1 ⟨rfl, hb1⟩; have b1 := chainM ((Below.refl _ _).alloc (Nat.le_refl _) _) hb1)
      | (go_at_call 24; (with_reducible refine (HF.out _).mono ?_); rintro e w2 ⟨rfl, hb2⟩; have b2 := chainM b1 hb2)
      | (go_at_call 23; (with_reducible refine (HTx.out _ b2).mono ?_); rintro e w3 ⟨y0, y1, y2, A3, c3, he, hv3, hr3, hb3⟩; obtain ⟨Y3, m3, d3, k3, x3, rfl, rfl, rfl⟩ := refv_parts hv3; subst he; have b3 := chainM b2 hb3)
      | (go_at_call 25; (with_reducible refine (HNum.out _ _ _ hv3 (b3.alloc b3.size _)).mono ?_); rintro e w4 ⟨y0, y1, y2, he, hv4, hb4⟩; rw [HE1.out] at he hv4; obtain ⟨Y4, m4, d4, k4, x4, rfl, rfl, rfl⟩ := refv_parts hv4; subst he; obtain ⟨g4, l4⟩ := var_then hb4; have b4 := chainM b3 g4))
    obtain ⟨gd, hgd⟩ : ∃ g, g = w4.heap.size := ⟨_, rfl⟩
    have HGd := Lib.hid hgd
    obtain ⟨W5, hW5⟩ : ∃ W, W = (w4.alloc (.cells #[.slice Y4 m4 d4, .int .i64 (k4 : Int), .bool x4] 51)).alloc (.cells #[.slice none 0 0, .int .i64 0, .int .i64 0, .int .i64 0] 29) := ⟨_, rfl⟩
    have G0 : GV w W5 w.heap.size gd (gd + 1) (gd + 2) A M c s1 [] Pt.z (.slice Y4 m4 d4) (.int .i64 (k4 : Int)) (.bool x4) none 0 := by
      have e5 : W5.heap.size = gd + 2 := by rw [hW5, hgd]; simp
      refine ⟨?_, ?_, ?_, hv4, ?_, World.ownsRow_nil _ _ _ _, ⟨Nat.le_refl _, ?_, by omega, by omega, by omega⟩⟩
      · rw [hW5]; exact (b4.alloc b4.size _).alloc (by have := b4.size; simp; omega) _
      · have h0 := Blk.below (Blk.new w 29 #[.slice none 0 0, .int .i64 0, .int .i64 0, .int .i64 0]) (hb1.trans ((((hb2.trans ((hb3.trans (g4.mono hb3.size)).mono hb2.size))).mono hb1.size))) (by simp)
        rw [hW5]
        exact (h0.alloc _).alloc _
      · rw [hW5, hgd]; exact (Blk.new w4 51 _).alloc _
      · have h := Blk.new (w4.alloc (.cells #[.slice Y4 m4 d4, .int .i64 (k4 : Int), .bool x4] 51)) 29 #[.slice none 0 0, .int .i64 0, .int .i64 0, .int .i64 0]
        rw [hW5, hgd]
        rwa [show (w4.alloc (.cells #[.slice Y4 m4 d4, .int .i64 (k4 : Int), .bool x4] 51)).heap.size = w4.heap.size + 1 by simp] at h
      · rw [hgd]; have := l4; have := b3.size; omega
    rw [← hW5, ← hgd]
    have HG0 := Lib.hid G0
    clear hW5 hgd G0 b1 b2 b3 b4 hb1 hb2 hb3 hb4 g4 l4 hv3 hv4 hr3
    go_loopw [11] (fun i wr => ∃ k : Nat, k ≤ n1 ∧ k ≤ 9 ∧ i = .int .i64 (k : Int) ∧ ∃ (Y : Option Addr) (m d q : Nat) (x : Bool) (A' : Option Addr) (c' : Nat), Hid (GV w wr w.heap.size gd (gd + 1) (gd + 2) A M c (takeN s1 k).1 (takeN s1 k).2 Pt.z (.slice Y m d) (.int .i64 (q : Int)) (.bool x) A' c')) (fun i _ => 10 - (intOf i).toNat)
    case atStart => exact ⟨0, by omega, by omega, rfl, Y4, m4, d4, k4, x4, none, 0, HG0.out⟩
    case round =>
      obtain ⟨k, hk, hk9, rfl, Y, m, d, q, x, A', c', HG⟩ := hrel
      obtain ⟨sk, ms, ek⟩ : ∃ s l, takeN s1 k = (s, l) := ⟨_, _, rfl⟩
      rw [ek] at HG
      have hms : ms.length = k := by have := takeN_len s1 k; rw [ek] at this; exact this
      by_cases hlt : k < n1 ∧ k < 9
      · obtain ⟨s', p, ep⟩ : ∃ s p, stepPt sk = (s, p) := ⟨_, _, rfl⟩
        have HE : Hid (takeN s1 (k + 1) = (s', ms ++ [p])) := by show _ = _; rw [takeN, ek]; simp only [ep]
        have HEp := Lib.hid ep
        have hc1 := HG.out.cells
        rw [hms] at hc1
        obtain ⟨⟨t0, t1, t2⟩, ⟨t3, t4, t5, t6⟩, f1, f2, l1, l2⟩ := hc1
        have d0 : decide ((k : Int) < (n1 : Int)) = true := decide_eq_true (by omega)
        have d1 : decide (k < n1) = true := decide_eq_true hlt.1
        have d2 : decide ((k : Int) < 9) = true := decide_eq_true (by omega)
        have d3 : decide (k < 9) = true := decide_eq_true hlt.2
        have HMs := Lib.hid hms
        have HEk := Lib.hid ek
        clear ep ek hms
        go_wp2_with (first
          | (go_at_call 26; (with_reducible refine (HTk.out _ _ _ HG.out.rd HG.out.below).mono ?_); rintro e w6 ⟨y0, y1, y2, he, hv6, hb6⟩; rw [HEp.out] at he hv6; obtain ⟨Y6, m6, d6, k6, x6, rfl, rfl, rfl⟩ := refv_parts hv6; subst he; have G6 := HG.out.up hb6; have hc6 := G6.cells; rw [HMs.out] at hc6; obtain ⟨⟨t0, t1, t2⟩, ⟨t3, t4, t5, t6⟩, f1, f2, l1, l2⟩ := hc6; have G8 := (((G6.setd (v0 := .slice Y6 m6 d6) (v1 := .int .i64 (k6 : Int)) (v2 := .bool x6) hv6).up ((Below.refl _ _).alloc (Nat.le_refl _) (.cells #[.slice Y6 m6 d6, .int .i64 (k6 : Int), .bool x6] 51))).up ((Below.refl _ _).alloc (Nat.le_refl _) (.cells #[.int .i64 p.f, .int .i64 p.s, .int .i64 p.o] 27))).up ((Below.refl _ _).alloc (Nat.le_refl _) (.cells #[.int .i64 p.f, .int .i64 p.s, .int .i64 p.o] 27)); have o8 := G8.own; rw [HMs.out] at o8; have r8 := pt_reads (n := 1) rfl (pt_new (((((w6.setCell ⟨gd, 0, none⟩ (.slice Y6 m6 d6)).setCell ⟨gd, 1, none⟩ (.int .i64 (k6 : Int))).setCell ⟨gd, 2, none⟩ (.bool x6)).alloc (.cells #[.slice Y6 m6 d6, .int .i64 (k6 : Int), .bool x6] 51)).alloc (.cells #[.int .i64 p.f, .int .i64 p.s, .int .i64 p.o] 27)) p); rw [show (((((w6.setCell ⟨gd, 0, none⟩ (.slice Y6 m6 d6)).setCell ⟨gd, 1, none⟩ (.int .i64 (k6 : Int))).setCell ⟨gd, 2, none⟩ (.bool x6)).alloc (.cells #[.slice Y6 m6 d6, .int .i64 (k6 : Int), .bool x6] 51)).alloc (.cells #[.int .i64 p.f, .int .i64 p.s, .int .i64 p.o] 27)).heap.size = w6.heap.size + 1 + 1 by simp [World.setCell]] at r8)
          | (at_builtin; refine wpList_append_any _ rfl (.tmp 57) (.tmp 59) _ rfl (gd + 2) 27 i0 _ 3 24 Try.underlying25 hi0 hz0 hz1 hz2 rfl (by omega) (.slice A' k c') k (ptCells ms) rfl o8 _ (some ⟨w6.heap.size + 1 + 1, 0, none⟩) 1 1 (ptCells [p]) rfl r8 (ptCells_one _) (by simp only [maxLen]; omega) (by omega) G8.ord.2.2.2.2 ?_; intro v9 w9 ho9 hg9 hat9; obtain ⟨A9, c9, rfl⟩ := pown_form ho9; obtain ⟨⟨a0, a1, a2⟩, G9⟩ := G8.app (by rw [HMs.out]; exact hg9) (by rw [HMs.out]) ho9))
        go_roundw
        case rel => exact ⟨k + 1, by omega, by omega, by go_num, Y6, m6, d6, k6, x6, A9, c9, by rw [HE.out]; exact G9⟩
        case measure => simp [intOf]; omega
      ·
        by_cases hkn : k < n1
        · have d0 : decide ((k : Int) < (n1 : Int)) = true := decide_eq_true (by omega)
          have d1 : decide (k < n1) = true := decide_eq_true hkn
          have d2 : decide ((k : Int) < 9) = false := decide_eq_false (by omega)
          have d3 : decide (k < 9) = false := decide_eq_false (by omega)
          have hkm : k = min n1 9 := by omega
          obtain ⟨sf, nh, eh⟩ : ∃ s n, stepNum sk = (s, n) := ⟨_, _, rfl⟩
          have hPr0 : procM M = if nh = 1 then ((stepPt sf).1, ⟨ms, (stepPt sf).2⟩) else (sf, ⟨ms, Pt.z⟩) := by
            unfold procM
            rw [← HS0.out]
            simp only [HE1.out, ← hkm, ek, eh]
          have hbf := HP.out
          rw [hPr0] at hbf
          have HEh := Lib.hid eh
          have hc1 := HG.out.cells
          rw [hms] at hc1
          obtain ⟨⟨t0, t1, t2⟩, ⟨t3, t4, t5, t6⟩, f1, f2, l1, l2⟩ := hc1
          have h9 : ms.length ≤ 9 := by omega
          have HMs := Lib.hid hms
          by_cases h1 : nh = 1
          · obtain ⟨sx, px, ex⟩ : ∃ s p, stepPt sf = (s, p) := ⟨_, _, rfl⟩
            have HEx := Lib.hid ex
            rw [if_pos h1, ex] at hbf
            subst h1
            obtain ⟨X, G, hX⟩ : ∃ X G, Mf.put ⟨ms, px⟩ = (X, G) := ⟨_, _, rfl⟩
            obtain ⟨xl, hxl⟩ : ∃ x, x = X.length := ⟨_, rfl⟩
            have HPt : Hid (∀ W, MfAt W ⟨ms, px⟩ A' c' → Calls Try.prog 27 #[.agg #[.slice A' k c', .int .i64 px.f, .int .i64 px.s, .int .i64 px.o]] W fun e w' => ∃ D dc, e = .returned (.tuple #[.slice D xl dc, .int .i64 G]) ∧ RB w' w'.heap.size D X ∧ Below W.heap.size W w') := fun W hW => by
              have h := rmput_any ⟨ms, px⟩ A' c' W hW
              rw [hX] at h
              rw [← hms, hxl]
              exact h
            have HSX : Hid (∀ W D dc, RB W W.heap.size D X → (convert 22 9 (.slice D xl dc)).run Try.prog W = .ok (.string ⟨X.toArray⟩) W) := fun W D dc h => aw_str h xl dc hxl
            have HOk : Hid (sx.isNone = false → G = 0 → X = b → Mf.get b = (⟨ms, px⟩, 0)) := fun h1 h2 h3 => get_ok (own := M) hbf hX h1 h2 h3
            have HNo : Hid (sx.isNone = true ∨ G ≠ 0 ∨ X ≠ b → Mf.get b = (Mf.zero, 5)) := fun h => get_no (own := M) hbf hX h
            clear hbf hPr0 hX hxl ek eh hkm hms
            by_cases o1 : sx.isNone = true
            · have HBB : Hid (sx.isNone = true) := o1
              have HV : Hid (Mf.get b = (Mf.zero, 5)) := HNo.out (.inl o1)
              clear HNo HOk o1
              go_wp2_with (first
                | (go_at_call 27; (with_reducible refine (HPt.out _ (S9.1 px)).mono ?_); rintro e w8 ⟨D, dc, rfl, hrD, hb8⟩; have u2 := (blk3 (Blk.below T9.2.1 hb8 T9.2.1.lt)).2.2; have S8 := HG.out.seen h9 (T9.1.trans (Turns.of_below hb8 (fun j => j = gd + 1))); obtain ⟨q0, q1, q2, q3⟩ := blk4 S8.2.2.1; have qf := S8.2.2.1.frozen; have ql := S8.2.2.1.lt; have sx := HSX.out _ _ dc hrD; have sb := HSB.out _ S8.2.1; have k8 := Blk.below T9.2.2 hb8 T9.2.2.lt; rw [HMs.out] at k8; obtain ⟨t3, t4, t5, t6⟩ := blk4 k8; have fm := k8.frozen; have lm := k8.lt)
                | (go_at_call 26; (with_reducible refine (HTk.out _ _ _ hv7 (chainM HG.out.below (hb7.alloc hb7.size _))).mono ?_); rintro e w9 ⟨y0, y1, y2, he, hv9, hb9⟩; rw [HEx.out] at he hv9; obtain ⟨Y9, m9, d9, k9, x9, rfl, rfl, rfl⟩ := refv_parts hv9; have hx9 : x9 = sx.isNone := refv_bool hv9; rw [HBB.out] at hx9; subst hx9; subst he; have Kf := Blk.below (Blk.new w7 51 #[.slice Y7 m7 d7, .int .i64 (k7 : Int), .bool x7]) hb9 (by simp); obtain ⟨p0, p1, p2⟩ := blk3 Kf; have pf := Kf.frozen; have pl := Kf.lt; have G9 := (G7.up ((Below.refl _ _).alloc (Nat.le_refl _) (.cells #[.slice Y7 m7 d7, .int .i64 (k7 : Int), .bool x7] 51))).up hb9; have hc9 := G9.cells; rw [HMs.out] at hc9; obtain ⟨⟨t0, t1, t2⟩, ⟨t3, t4, t5, t6⟩, f1, f2, l1, l2⟩ := hc9; have T9 := snap_set HG.out ((hb7.alloc hb7.size (.cells #[.slice Y7 m7 d7, .int .i64 (k7 : Int), .bool x7] 51)).trans (hb9.mono (by have := hb7.size; simp; omega))) hb7.size Kf (.slice Y9 m9 d9) (.int .i64 (k9 : Int)) (.bool true) (.int .i64 px.f) (.int .i64 px.s) (.int .i64 px.o) (.cells #[.slice Y9 m9 d9, .int .i64 (k9 : Int), .bool true] 51) (.cells #[.int .i64 px.f, .int .i64 px.s, .int .i64 px.o] 27); have S9 := HG.out.seen h9 T9.1)
                | (go_at_call 25; (with_reducible refine (HNum.out _ _ _ HG.out.rd HG.out.below).mono ?_); rintro e w7 ⟨y0, y1, y2, he, hv7, hb7⟩; rw [HEh.out] at he hv7; obtain ⟨Y7, m7, d7, k7, x7, rfl, rfl, rfl⟩ := refv_parts hv7; subst he; have G7 := HG.out.up hb7; have hc7 := G7.cells; rw [HMs.out] at hc7; obtain ⟨⟨t0, t1, t2⟩, ⟨t3, t4, t5, t6⟩, f1, f2, l1, l2⟩ := hc7))
              obtain ⟨E, hE⟩ : ∃ E, E = ((((w8.setCell ⟨w.heap.size, 0, none⟩ (.slice none 0 0)).setCell ⟨w.heap.size, 1, none⟩ (.int .i64 0)).setCell ⟨w.heap.size, 2, none⟩ (.int .i64 0)).setCell ⟨w.heap.size, 3, none⟩ (.int .i64 0)) := ⟨_, rfl⟩
              obtain ⟨⟨r0, r1, r2, r3⟩, hbE, hm⟩ := man_end S8.2.1 S8.2.2.1 S8.2.2.2.1 hE
              rw [← hE]
              refine bodyPost_ret (v := .tuple #[.agg #[.slice none 0 0, .int .i64 0, .int .i64 0, .int .i64 0], .int .i64 5]) (by simp [results, Try.results7, go_sem, r0, r1, r2, r3]) rfl ?_
              rw [HV.out]
              exact ⟨none, 0, rfl, mfAt_zero E, hbE⟩
            · have HBB : Hid (sx.isNone = false) := Bool.eq_false_iff.2 o1
              by_cases o2 : G = 0
              · subst o2
                by_cases o3 : X = b
                · have HV : Hid (Mf.get b = (⟨ms, px⟩, 0)) := HOk.out HBB.out rfl o3
                  have v0 : (X == b) = true := (by rw [beq_iff_eq]; exact o3)
                  have v1 : (X != b) = false := (by rw [o3]; simp)
                  have v2 : decide (X = b) = true := decide_eq_true o3
                  clear HNo HOk o3 o1
                  go_wp2_with (first
                    | (go_at_call 27; (with_reducible refine (HPt.out _ (S9.1 px)).mono ?_); rintro e w8 ⟨D, dc, rfl, hrD, hb8⟩; have u2 := (blk3 (Blk.below T9.2.1 hb8 T9.2.1.lt)).2.2; have S8 := HG.out.seen h9 (T9.1.trans (Turns.of_below hb8 (fun j => j = gd + 1))); obtain ⟨q0, q1, q2, q3⟩ := blk4 S8.2.2.1; have qf := S8.2.2.1.frozen; have ql := S8.2.2.1.lt; have sx := HSX.out _ _ dc hrD; have sb := HSB.out _ S8.2.1; have k8 := Blk.below T9.2.2 hb8 T9.2.2.lt; rw [HMs.out] at k8; obtain ⟨t3, t4, t5, t6⟩ := blk4 k8; have fm := k8.frozen; have lm := k8.lt)
                    | (go_at_call 26; (with_reducible refine (HTk.out _ _ _ hv7 (chainM HG.out.below (hb7.alloc hb7.size _))).mono ?_); rintro e w9 ⟨y0, y1, y2, he, hv9, hb9⟩; rw [HEx.out] at he hv9; obtain ⟨Y9, m9, d9, k9, x9, rfl, rfl, rfl⟩ := refv_parts hv9; have hx9 : x9 = sx.isNone := refv_bool hv9; rw [HBB.out] at hx9; subst hx9; subst he; have Kf := Blk.below (Blk.new w7 51 #[.slice Y7 m7 d7, .int .i64 (k7 : Int), .bool x7]) hb9 (by simp); obtain ⟨p0, p1, p2⟩ := blk3 Kf; have pf := Kf.frozen; have pl := Kf.lt; have G9 := (G7.up ((Below.refl _ _).alloc (Nat.le_refl _) (.cells #[.slice Y7 m7 d7, .int .i64 (k7 : Int), .bool x7] 51))).up hb9; have hc9 := G9.cells; rw [HMs.out] at hc9; obtain ⟨⟨t0, t1, t2⟩, ⟨t3, t4, t5, t6⟩, f1, f2, l1, l2⟩ := hc9; have T9 := snap_set HG.out ((hb7.alloc hb7.size (.cells #[.slice Y7 m7 d7, .int .i64 (k7 : Int), .bool x7] 51)).trans (hb9.mono (by have := hb7.size; simp; omega))) hb7.size Kf (.slice Y9 m9 d9) (.int .i64 (k9 : Int)) (.bool false) (.int .i64 px.f) (.int .i64 px.s) (.int .i64 px.o) (.cells #[.slice Y9 m9 d9, .int .i64 (k9 : Int), .bool false] 51) (.cells #[.int .i64 px.f, .int .i64 px.s, .int .i64 px.o] 27); have S9 := HG.out.seen h9 T9.1)
                    | (go_at_call 25; (with_reducible refine (HNum.out _ _ _ HG.out.rd HG.out.below).mono ?_); rintro e w7 ⟨y0, y1, y2, he, hv7, hb7⟩; rw [HEh.out] at he hv7; obtain ⟨Y7, m7, d7, k7, x7, rfl, rfl, rfl⟩ := refv_parts hv7; subst he; have G7 := HG.out.up hb7; have hc7 := G7.cells; rw [HMs.out] at hc7; obtain ⟨⟨t0, t1, t2⟩, ⟨t3, t4, t5, t6⟩, f1, f2, l1, l2⟩ := hc7))
                  obtain ⟨E, hE⟩ : ∃ E, E = ((((w8.setCell ⟨w.heap.size, 0, none⟩ (.slice A' k c')).setCell ⟨w.heap.size, 1, none⟩ (.int .i64 px.f)).setCell ⟨w.heap.size, 2, none⟩ (.int .i64 px.s)).setCell ⟨w.heap.size, 3, none⟩ (.int .i64 px.o)) := ⟨_, rfl⟩
                  obtain ⟨⟨r0, r1, r2, r3⟩, hbE, hm⟩ := man_end S8.2.1 S8.2.2.1 S8.2.2.2.1 hE
                  rw [← hE]
                  refine bodyPost_ret (v := .tuple #[.agg #[.slice A' k c', .int .i64 px.f, .int .i64 px.s, .int .i64 px.o], .int .i64 0]) (by simp [results, Try.results7, go_sem, r0, r1, r2, r3]) rfl ?_
                  rw [HV.out]
                  refine ⟨A', c', ?_, hm _ _ _ (S8.1 px) S8.2.2.2.2, hbE⟩
                  show _ = Ending.returned (.tuple #[.agg #[.slice A' ms.length c', .int .i64 px.f, .int .i64 px.s, .int .i64 px.o], .int .i64 0])
                  rw [HMs.out]
                · have HV : Hid (Mf.get b = (Mf.zero, 5)) := HNo.out (.inr (.inr o3))
                  have v0 : (X == b) = false := (by rw [beq_eq_false_iff_ne]; exact o3)
                  have v1 : (X != b) = true := (by rw [bne_iff_ne]; exact o3)
                  have v2 : decide (X = b) = false := decide_eq_false o3
                  clear HNo HOk o3 o1
                  go_wp2_with (first
                    | (go_at_call 27; (with_reducible refine (HPt.out _ (S9.1 px)).mono ?_); rintro e w8 ⟨D, dc, rfl, hrD, hb8⟩; have u2 := (blk3 (Blk.below T9.2.1 hb8 T9.2.1.lt)).2.2; have S8 := HG.out.seen h9 (T9.1.trans (Turns.of_below hb8 (fun j => j = gd + 1))); obtain ⟨q0, q1, q2, q3⟩ := blk4 S8.2.2.1; have qf := S8.2.2.1.frozen; have ql := S8.2.2.1.lt; have sx := HSX.out _ _ dc hrD; have sb := HSB.out _ S8.2.1; have k8 := Blk.below T9.2.2 hb8 T9.2.2.lt; rw [HMs.out] at k8; obtain ⟨t3, t4, t5, t6⟩ := blk4 k8; have fm := k8.frozen; have lm := k8.lt)
                    | (go_at_call 26; (with_reducible refine (HTk.out _ _ _ hv7 (chainM HG.out.below (hb7.alloc hb7.size _))).mono ?_); rintro e w9 ⟨y0, y1, y2, he, hv9, hb9⟩; rw [HEx.out] at he hv9; obtain ⟨Y9, m9, d9, k9, x9, rfl, rfl, rfl⟩ := refv_parts hv9; have hx9 : x9 = sx.isNone := refv_bool hv9; rw [HBB.out] at hx9; subst hx9; subst he; have Kf := Blk.below (Blk.new w7 51 #[.slice Y7 m7 d7, .int .i64 (k7 : Int), .bool x7]) hb9 (by simp); obtain ⟨p0, p1, p2⟩ := blk3 Kf; have pf := Kf.frozen; have pl := Kf.lt; have G9 := (G7.up ((Below.refl _ _).alloc (Nat.le_refl _) (.cells #[.slice Y7 m7 d7, .int .i64 (k7 : Int), .bool x7] 51))).up hb9; have hc9 := G9.cells; rw [HMs.out] at hc9; obtain ⟨⟨t0, t1, t2⟩, ⟨t3, t4, t5, t6⟩, f1, f2, l1, l2⟩ := hc9; have T9 := snap_set HG.out ((hb7.alloc hb7.size (.cells #[.slice Y7 m7 d7, .int .i64 (k7 : Int), .bool x7] 51)).trans (hb9.mono (by have := hb7.size; simp; omega))) hb7.size Kf (.slice Y9 m9 d9) (.int .i64 (k9 : Int)) (.bool false) (.int .i64 px.f) (.int .i64 px.s) (.int .i64 px.o) (.cells #[.slice Y9 m9 d9, .int .i64 (k9 : Int), .bool false] 51) (.cells #[.int .i64 px.f, .int .i64 px.s, .int .i64 px.o] 27); have S9 := HG.out.seen h9 T9.1)
                    | (go_at_call 25; (with_reducible refine (HNum.out _ _ _ HG.out.rd HG.out.below).mono ?_); rintro e w7 ⟨y0, y1, y2, he, hv7, hb7⟩; rw [HEh.out] at he hv7; obtain ⟨Y7, m7, d7, k7, x7, rfl, rfl, rfl⟩ := refv_parts hv7; subst he; have G7 := HG.out.up hb7; have hc7 := G7.cells; rw [HMs.out] at hc7; obtain ⟨⟨t0, t1, t2⟩, ⟨t3, t4, t5, t6⟩, f1, f2, l1, l2⟩ := hc7))
                  obtain ⟨E, hE⟩ : ∃ E, E = ((((w8.setCell ⟨w.heap.size, 0, none⟩ (.slice none 0 0)).setCell ⟨w.heap.size, 1, none⟩ (.int .i64 0)).setCell ⟨w.heap.size, 2, none⟩ (.int .i64 0)).setCell ⟨w.heap.size, 3, none⟩ (.int .i64 0)) := ⟨_, rfl⟩
                  obtain ⟨⟨r0, r1, r2, r3⟩, hbE, hm⟩ := man_end S8.2.1 S8.2.2.1 S8.2.2.2.1 hE
                  rw [← hE]
                  refine bodyPost_ret (v := .tuple #[.agg #[.slice none 0 0, .int .i64 0, .int .i64 0, .int .i64 0], .int .i64 5]) (by simp [results, Try.results7, go_sem, r0, r1, r2, r3]) rfl ?_
                  rw [HV.out]
                  exact ⟨none, 0, rfl, mfAt_zero E, hbE⟩
              · have HV : Hid (Mf.get b = (Mf.zero, 5)) := HNo.out (.inr (.inl o2))
                have v0 : decide (G = 0) = false := decide_eq_false o2
                have v1 : (G == 0) = false := (by rw [beq_eq_false_iff_ne]; exact o2)
                have v2 : (G != 0) = true := (by rw [bne_iff_ne]; exact o2)
                clear HNo HOk o2 o1
                go_wp2_with (first
                  | (go_at_call 27; (with_reducible refine (HPt.out _ (S9.1 px)).mono ?_); rintro e w8 ⟨D, dc, rfl, hrD, hb8⟩; have u2 := (blk3 (Blk.below T9.2.1 hb8 T9.2.1.lt)).2.2; have S8 := HG.out.seen h9 (T9.1.trans (Turns.of_below hb8 (fun j => j = gd + 1))); obtain ⟨q0, q1, q2, q3⟩ := blk4 S8.2.2.1; have qf := S8.2.2.1.frozen; have ql := S8.2.2.1.lt; have sx := HSX.out _ _ dc hrD; have sb := HSB.out _ S8.2.1; have k8 := Blk.below T9.2.2 hb8 T9.2.2.lt; rw [HMs.out] at k8; obtain ⟨t3, t4, t5, t6⟩ := blk4 k8; have fm := k8.frozen; have lm := k8.lt)
                  | (go_at_call 26; (with_reducible refine (HTk.out _ _ _ hv7 (chainM HG.out.below (hb7.alloc hb7.size _))).mono ?_); rintro e w9 ⟨y0, y1, y2, he, hv9, hb9⟩; rw [HEx.out] at he hv9; obtain ⟨Y9, m9, d9, k9, x9, rfl, rfl, rfl⟩ := refv_parts hv9; have hx9 : x9 = sx.isNone := refv_bool hv9; rw [HBB.out] at hx9; subst hx9; subst he; have Kf := Blk.below (Blk.new w7 51 #[.slice Y7 m7 d7, .int .i64 (k7 : Int), .bool x7]) hb9 (by simp); obtain ⟨p0, p1, p2⟩ := blk3 Kf; have pf := Kf.frozen; have pl := Kf.lt; have G9 := (G7.up ((Below.refl _ _).alloc (Nat.le_refl _) (.cells #[.slice Y7 m7 d7, .int .i64 (k7 : Int), .bool x7] 51))).up hb9; have hc9 := G9.cells; rw [HMs.out] at hc9; obtain ⟨⟨t0, t1, t2⟩, ⟨t3, t4, t5, t6⟩, f1, f2, l1, l2⟩ := hc9; have T9 := snap_set HG.out ((hb7.alloc hb7.size (.cells #[.slice Y7 m7 d7, .int .i64 (k7 : Int), .bool x7] 51)).trans (hb9.mono (by have := hb7.size; simp; omega))) hb7.size Kf (.slice Y9 m9 d9) (.int .i64 (k9 : Int)) (.bool false) (.int .i64 px.f) (.int .i64 px.s) (.int .i64 px.o) (.cells #[.slice Y9 m9 d9, .int .i64 (k9 : Int), .bool false] 51) (.cells #[.int .i64 px.f, .int .i64 px.s, .int .i64 px.o] 27); have S9 := HG.out.seen h9 T9.1)
                  | (go_at_call 25; (with_reducible refine (HNum.out _ _ _ HG.out.rd HG.out.below).mono ?_); rintro e w7 ⟨y0, y1, y2, he, hv7, hb7⟩; rw [HEh.out] at he hv7; obtain ⟨Y7, m7, d7, k7, x7, rfl, rfl, rfl⟩ := refv_parts hv7; subst he; have G7 := HG.out.up hb7; have hc7 := G7.cells; rw [HMs.out] at hc7; obtain ⟨⟨t0, t1, t2⟩, ⟨t3, t4, t5, t6⟩, f1, f2, l1, l2⟩ := hc7))
                obtain ⟨E, hE⟩ : ∃ E, E = ((((w8.setCell ⟨w.heap.size, 0, none⟩ (.slice none 0 0)).setCell ⟨w.heap.size, 1, none⟩ (.int .i64 0)).setCell ⟨w.heap.size, 2, none⟩ (.int .i64 0)).setCell ⟨w.heap.size, 3, none⟩ (.int .i64 0)) := ⟨_, rfl⟩
                obtain ⟨⟨r0, r1, r2, r3⟩, hbE, hm⟩ := man_end S8.2.1 S8.2.2.1 S8.2.2.2.1 hE
                rw [← hE]
                refine bodyPost_ret (v := .tuple #[.agg #[.slice none 0 0, .int .i64 0, .int .i64 0, .int .i64 0], .int .i64 5]) (by simp [results, Try.results7, go_sem, r0, r1, r2, r3]) rfl ?_
                rw [HV.out]
                exact ⟨none, 0, rfl, mfAt_zero E, hbE⟩
          · rw [if_neg h1] at hbf
            have e1 : decide ((nh : Int) = 1) = false := decide_eq_false (by omega)
            have e2 : ((nh : Int) == 1) = false := by rw [beq_eq_false_iff_ne]; omega
            have e3 : (nh == 1) = false := by rw [beq_eq_false_iff_ne]; omega
            have e4 : decide (nh = 1) = false := decide_eq_false h1
            obtain ⟨X, G, hX⟩ : ∃ X G, Mf.put ⟨ms, Pt.z⟩ = (X, G) := ⟨_, _, rfl⟩
            obtain ⟨xl, hxl⟩ : ∃ x, x = X.length := ⟨_, rfl⟩
            have HPt : Hid (∀ W, MfAt W ⟨ms, Pt.z⟩ A' c' → Calls Try.prog 27 #[.agg #[.slice A' k c', .int .i64 Pt.z.f, .int .i64 Pt.z.s, .int .i64 Pt.z.o]] W fun e w' => ∃ D dc, e = .returned (.tuple #[.slice D xl dc, .int .i64 G]) ∧ RB w' w'.heap.size D X ∧ Below W.heap.size W w') := fun W hW => by
              have h := rmput_any ⟨ms, Pt.z⟩ A' c' W hW
              rw [hX] at h
              rw [← hms, hxl]
              exact h
            have HSX : Hid (∀ W D dc, RB W W.heap.size D X → (convert 22 9 (.slice D xl dc)).run Try.prog W = .ok (.string ⟨X.toArray⟩) W) := fun W D dc h => aw_str h xl dc hxl
            have HOk : Hid (sf.isNone = false → G = 0 → X = b → Mf.get b = (⟨ms, Pt.z⟩, 0)) := fun h1 h2 h3 => get_ok (own := M) hbf hX h1 h2 h3
            have HNo : Hid (sf.isNone = true ∨ G ≠ 0 ∨ X ≠ b → Mf.get b = (Mf.zero, 5)) := fun h => get_no (own := M) hbf hX h
            clear hbf hPr0 hX hxl ek eh hkm hms
            by_cases o1 : sf.isNone = true
            · have HBB : Hid (sf.isNone = true) := o1
              have HV : Hid (Mf.get b = (Mf.zero, 5)) := HNo.out (.inl o1)
              clear HNo HOk o1
              go_wp2_with (first
                | (go_at_call 27; (with_reducible refine (HPt.out _ (S7.1 Pt.z)).mono ?_); rintro e w8 ⟨D, dc, rfl, hrD, hb8⟩; have u2 : w8.cell? ⟨w7.heap.size, 2, none⟩ = some (.bool true) := (by rw [(Blk.below (Blk.new w7 51 #[.slice Y7 m7 d7, .int .i64 (k7 : Int), .bool true]) hb8 (by simp)).cell]; rfl); have S8 := HG.out.seen h9 (Turns.of_below ((hb7.alloc hb7.size (.cells #[.slice Y7 m7 d7, .int .i64 (k7 : Int), .bool true] 51)).trans (hb8.mono (by have := hb7.size; simp; omega))) (fun j => j = gd + 1)); obtain ⟨q0, q1, q2, q3⟩ := blk4 S8.2.2.1; have qf := S8.2.2.1.frozen; have ql := S8.2.2.1.lt; have sx := HSX.out _ _ dc hrD; have sb := HSB.out _ S8.2.1; have G8 := (G7.up ((Below.refl _ _).alloc (Nat.le_refl _) (.cells #[.slice Y7 m7 d7, .int .i64 (k7 : Int), .bool true] 51))).up hb8; have hc8 := G8.cells; rw [HMs.out] at hc8; obtain ⟨_, ⟨t3, t4, t5, t6⟩, f1, f2, l1, l2⟩ := hc8)
                | (go_at_call 25; (with_reducible refine (HNum.out _ _ _ HG.out.rd HG.out.below).mono ?_); rintro e w7 ⟨y0, y1, y2, he, hv7, hb7⟩; rw [HEh.out] at he hv7; obtain ⟨Y7, m7, d7, k7, x7, rfl, rfl, rfl⟩ := refv_parts hv7; have hx7 : x7 = sf.isNone := refv_bool hv7; rw [HBB.out] at hx7; subst hx7; subst he; have G7 := HG.out.up hb7; have hc7 := G7.cells; rw [HMs.out] at hc7; obtain ⟨⟨t0, t1, t2⟩, ⟨t3, t4, t5, t6⟩, f1, f2, l1, l2⟩ := hc7; have S7 := HG.out.seen h9 (Turns.of_below (hb7.alloc hb7.size (.cells #[.slice Y7 m7 d7, .int .i64 (k7 : Int), .bool true] 51)) (fun j => j = gd + 1))))
              obtain ⟨E, hE⟩ : ∃ E, E = ((((w8.setCell ⟨w.heap.size, 0, none⟩ (.slice none 0 0)).setCell ⟨w.heap.size, 1, none⟩ (.int .i64 0)).setCell ⟨w.heap.size, 2, none⟩ (.int .i64 0)).setCell ⟨w.heap.size, 3, none⟩ (.int .i64 0)) := ⟨_, rfl⟩
              obtain ⟨⟨r0, r1, r2, r3⟩, hbE, hm⟩ := man_end S8.2.1 S8.2.2.1 S8.2.2.2.1 hE
              rw [← hE]
              refine bodyPost_ret (v := .tuple #[.agg #[.slice none 0 0, .int .i64 0, .int .i64 0, .int .i64 0], .int .i64 5]) (by simp [results, Try.results7, go_sem, r0, r1, r2, r3]) rfl ?_
              rw [HV.out]
              exact ⟨none, 0, rfl, mfAt_zero E, hbE⟩
            · have HBB : Hid (sf.isNone = false) := Bool.eq_false_iff.2 o1
              by_cases o2 : G = 0
              · subst o2
                by_cases o3 : X = b
                · have HV : Hid (Mf.get b = (⟨ms, Pt.z⟩, 0)) := HOk.out HBB.out rfl o3
                  have v0 : (X == b) = true := (by rw [beq_iff_eq]; exact o3)
                  have v1 : (X != b) = false := (by rw [o3]; simp)
                  have v2 : decide (X = b) = true := decide_eq_true o3
                  clear HNo HOk o3 o1
                  go_wp2_with (first
                    | (go_at_call 27; (with_reducible refine (HPt.out _ (S7.1 Pt.z)).mono ?_); rintro e w8 ⟨D, dc, rfl, hrD, hb8⟩; have u2 : w8.cell? ⟨w7.heap.size, 2, none⟩ = some (.bool false) := (by rw [(Blk.below (Blk.new w7 51 #[.slice Y7 m7 d7, .int .i64 (k7 : Int), .bool false]) hb8 (by simp)).cell]; rfl); have S8 := HG.out.seen h9 (Turns.of_below ((hb7.alloc hb7.size (.cells #[.slice Y7 m7 d7, .int .i64 (k7 : Int), .bool false] 51)).trans (hb8.mono (by have := hb7.size; simp; omega))) (fun j => j = gd + 1)); obtain ⟨q0, q1, q2, q3⟩ := blk4 S8.2.2.1; have qf := S8.2.2.1.frozen; have ql := S8.2.2.1.lt; have sx := HSX.out _ _ dc hrD; have sb := HSB.out _ S8.2.1; have G8 := (G7.up ((Below.refl _ _).alloc (Nat.le_refl _) (.cells #[.slice Y7 m7 d7, .int .i64 (k7 : Int), .bool false] 51))).up hb8; have hc8 := G8.cells; rw [HMs.out] at hc8; obtain ⟨_, ⟨t3, t4, t5, t6⟩, f1, f2, l1, l2⟩ := hc8)
                    | (go_at_call 25; (with_reducible refine (HNum.out _ _ _ HG.out.rd HG.out.below).mono ?_); rintro e w7 ⟨y0, y1, y2, he, hv7, hb7⟩; rw [HEh.out] at he hv7; obtain ⟨Y7, m7, d7, k7, x7, rfl, rfl, rfl⟩ := refv_parts hv7; have hx7 : x7 = sf.isNone := refv_bool hv7; rw [HBB.out] at hx7; subst hx7; subst he; have G7 := HG.out.up hb7; have hc7 := G7.cells; rw [HMs.out] at hc7; obtain ⟨⟨t0, t1, t2⟩, ⟨t3, t4, t5, t6⟩, f1, f2, l1, l2⟩ := hc7; have S7 := HG.out.seen h9 (Turns.of_below (hb7.alloc hb7.size (.cells #[.slice Y7 m7 d7, .int .i64 (k7 : Int), .bool false] 51)) (fun j => j = gd + 1))))
                  obtain ⟨E, hE⟩ : ∃ E, E = ((((w8.setCell ⟨w.heap.size, 0, none⟩ (.slice A' k c')).setCell ⟨w.heap.size, 1, none⟩ (.int .i64 Pt.z.f)).setCell ⟨w.heap.size, 2, none⟩ (.int .i64 Pt.z.s)).setCell ⟨w.heap.size, 3, none⟩ (.int .i64 Pt.z.o)) := ⟨_, rfl⟩
                  obtain ⟨⟨r0, r1, r2, r3⟩, hbE, hm⟩ := man_end S8.2.1 S8.2.2.1 S8.2.2.2.1 hE
                  rw [← hE]
                  refine bodyPost_ret (v := .tuple #[.agg #[.slice A' k c', .int .i64 Pt.z.f, .int .i64 Pt.z.s, .int .i64 Pt.z.o], .int .i64 0]) (by simp [results, Try.results7, go_sem, r0, r1, r2, r3]) rfl ?_
                  rw [HV.out]
                  refine ⟨A', c', ?_, hm _ _ _ (S8.1 Pt.z) S8.2.2.2.2, hbE⟩
                  show _ = Ending.returned (.tuple #[.agg #[.slice A' ms.length c', .int .i64 Pt.z.f, .int .i64 Pt.z.s, .int .i64 Pt.z.o], .int .i64 0])
                  rw [HMs.out]
                · have HV : Hid (Mf.get b = (Mf.zero, 5)) := HNo.out (.inr (.inr o3))
                  have v0 : (X == b) = false := (by rw [beq_eq_false_iff_ne]; exact o3)
                  have v1 : (X != b) = true := (by rw [bne_iff_ne]; exact o3)
                  have v2 : decide (X = b) = false := decide_eq_false o3
                  clear HNo HOk o3 o1
                  go_wp2_with (first
                    | (go_at_call 27; (with_reducible refine (HPt.out _ (S7.1 Pt.z)).mono ?_); rintro e w8 ⟨D, dc, rfl, hrD, hb8⟩; have u2 : w8.cell? ⟨w7.heap.size, 2, none⟩ = some (.bool false) := (by rw [(Blk.below (Blk.new w7 51 #[.slice Y7 m7 d7, .int .i64 (k7 : Int), .bool false]) hb8 (by simp)).cell]; rfl); have S8 := HG.out.seen h9 (Turns.of_below ((hb7.alloc hb7.size (.cells #[.slice Y7 m7 d7, .int .i64 (k7 : Int), .bool false] 51)).trans (hb8.mono (by have := hb7.size; simp; omega))) (fun j => j = gd + 1)); obtain ⟨q0, q1, q2, q3⟩ := blk4 S8.2.2.1; have qf := S8.2.2.1.frozen; have ql := S8.2.2.1.lt; have sx := HSX.out _ _ dc hrD; have sb := HSB.out _ S8.2.1; have G8 := (G7.up ((Below.refl _ _).alloc (Nat.le_refl _) (.cells #[.slice Y7 m7 d7, .int .i64 (k7 : Int), .bool false] 51))).up hb8; have hc8 := G8.cells; rw [HMs.out] at hc8; obtain ⟨_, ⟨t3, t4, t5, t6⟩, f1, f2, l1, l2⟩ := hc8)
                    | (go_at_call 25; (with_reducible refine (HNum.out _ _ _ HG.out.rd HG.out.below).mono ?_); rintro e w7 ⟨y0, y1, y2, he, hv7, hb7⟩; rw [HEh.out] at he hv7; obtain ⟨Y7, m7, d7, k7, x7, rfl, rfl, rfl⟩ := refv_parts hv7; have hx7 : x7 = sf.isNone := refv_bool hv7; rw [HBB.out] at hx7; subst hx7; subst he; have G7 := HG.out.up hb7; have hc7 := G7.cells; rw [HMs.out] at hc7; obtain ⟨⟨t0, t1, t2⟩, ⟨t3, t4, t5, t6⟩, f1, f2, l1, l2⟩ := hc7; have S7 := HG.out.seen h9 (Turns.of_below (hb7.alloc hb7.size (.cells #[.slice Y7 m7 d7, .int .i64 (k7 : Int), .bool false] 51)) (fun j => j = gd + 1))))
                  obtain ⟨E, hE⟩ : ∃ E, E = ((((w8.setCell ⟨w.heap.size, 0, none⟩ (.slice none 0 0)).setCell ⟨w.heap.size, 1, none⟩ (.int .i64 0)).setCell ⟨w.heap.size, 2, none⟩ (.int .i64 0)).setCell ⟨w.heap.size, 3, none⟩ (.int .i64 0)) := ⟨_, rfl⟩
                  obtain ⟨⟨r0, r1, r2, r3⟩, hbE, hm⟩ := man_end S8.2.1 S8.2.2.1 S8.2.2.2.1 hE
                  rw [← hE]
                  refine bodyPost_ret (v := .tuple #[.agg #[.slice none 0 0, .int .i64 0, .int .i64 0, .int .i64 0], .int .i64 5]) (by simp [results, Try.results7, go_sem, r0, r1, r2, r3]) rfl ?_
                  rw [HV.out]
                  exact ⟨none, 0, rfl, mfAt_zero E, hbE⟩
              · have HV : Hid (Mf.get b = (Mf.zero, 5)) := HNo.out (.inr (.inl o2))
                have v0 : decide (G = 0) = false := decide_eq_false o2
                have v1 : (G == 0) = false := (by rw [beq_eq_false_iff_ne]; exact o2)
                have v2 : (G != 0) = true := (by rw [bne_iff_ne]; exact o2)
                clear HNo HOk o2 o1
                go_wp2_with (first
                  | (go_at_call 27; (with_reducible refine (HPt.out _ (S7.1 Pt.z)).mono ?_); rintro e w8 ⟨D, dc, rfl, hrD, hb8⟩; have u2 : w8.cell? ⟨w7.heap.size, 2, none⟩ = some (.bool false) := (by rw [(Blk.below (Blk.new w7 51 #[.slice Y7 m7 d7, .int .i64 (k7 : Int), .bool false]) hb8 (by simp)).cell]; rfl); have S8 := HG.out.seen h9 (Turns.of_below ((hb7.alloc hb7.size (.cells #[.slice Y7 m7 d7, .int .i64 (k7 : Int), .bool false] 51)).trans (hb8.mono (by have := hb7.size; simp; omega))) (fun j => j = gd + 1)); obtain ⟨q0, q1, q2, q3⟩ := blk4 S8.2.2.1; have qf := S8.2.2.1.frozen; have ql := S8.2.2.1.lt; have sx := HSX.out _ _ dc hrD; have sb := HSB.out _ S8.2.1; have G8 := (G7.up ((Below.refl _ _).alloc (Nat.le_refl _) (.cells #[.slice Y7 m7 d7, .int .i64 (k7 : Int), .bool false] 51))).up hb8; have hc8 := G8.cells; rw [HMs.out] at hc8; obtain ⟨_, ⟨t3, t4, t5, t6⟩, f1, f2, l1, l2⟩ := hc8)
                  | (go_at_call 25; (with_reducible refine (HNum.out _ _ _ HG.out.rd HG.out.below).mono ?_); rintro e w7 ⟨y0, y1, y2, he, hv7, hb7⟩; rw [HEh.out] at he hv7; obtain ⟨Y7, m7, d7, k7, x7, rfl, rfl, rfl⟩ := refv_parts hv7; have hx7 : x7 = sf.isNone := refv_bool hv7; rw [HBB.out] at hx7; subst hx7; subst he; have G7 := HG.out.up hb7; have hc7 := G7.cells; rw [HMs.out] at hc7; obtain ⟨⟨t0, t1, t2⟩, ⟨t3, t4, t5, t6⟩, f1, f2, l1, l2⟩ := hc7; have S7 := HG.out.seen h9 (Turns.of_below (hb7.alloc hb7.size (.cells #[.slice Y7 m7 d7, .int .i64 (k7 : Int), .bool false] 51)) (fun j => j = gd + 1))))
                obtain ⟨E, hE⟩ : ∃ E, E = ((((w8.setCell ⟨w.heap.size, 0, none⟩ (.slice none 0 0)).setCell ⟨w.heap.size, 1, none⟩ (.int .i64 0)).setCell ⟨w.heap.size, 2, none⟩ (.int .i64 0)).setCell ⟨w.heap.size, 3, none⟩ (.int .i64 0)) := ⟨_, rfl⟩
                obtain ⟨⟨r0, r1, r2, r3⟩, hbE, hm⟩ := man_end S8.2.1 S8.2.2.1 S8.2.2.2.1 hE
                rw [← hE]
                refine bodyPost_ret (v := .tuple #[.agg #[.slice none 0 0, .int .i64 0, .int .i64 0, .int .i64 0], .int .i64 5]) (by simp [results, Try.results7, go_sem, r0, r1, r2, r3]) rfl ?_
                rw [HV.out]
                exact ⟨none, 0, rfl, mfAt_zero E, hbE⟩
        · have d0 : decide ((k : Int) < (n1 : Int)) = false := decide_eq_false (by omega)
          have d1 : decide (k < n1) = false := decide_eq_false hkn
          have hkm : k = min n1 9 := by omega
          obtain ⟨sf, nh, eh⟩ : ∃ s n, stepNum sk = (s, n) := ⟨_, _, rfl⟩
          have hPr0 : procM M = if nh = 1 then ((stepPt sf).1, ⟨ms, (stepPt sf).2⟩) else (sf, ⟨ms, Pt.z⟩) := by
            unfold procM
            rw [← HS0.out]
            simp only [HE1.out, ← hkm, ek, eh]
          have hbf := HP.out
          rw [hPr0] at hbf
          have HEh := Lib.hid eh
          have hc1 := HG.out.cells
          rw [hms] at hc1
          obtain ⟨⟨t0, t1, t2⟩, ⟨t3, t4, t5, t6⟩, f1, f2, l1, l2⟩ := hc1
          have h9 : ms.length ≤ 9 := by omega
          have HMs := Lib.hid hms
          by_cases h1 : nh = 1
          · obtain ⟨sx, px, ex⟩ : ∃ s p, stepPt sf = (s, p) := ⟨_, _, rfl⟩
            have HEx := Lib.hid ex
            rw [if_pos h1, ex] at hbf
            subst h1
            obtain ⟨X, G, hX⟩ : ∃ X G, Mf.put ⟨ms, px⟩ = (X, G) := ⟨_, _, rfl⟩
            obtain ⟨xl, hxl⟩ : ∃ x, x = X.length := ⟨_, rfl⟩
            have HPt : Hid (∀ W, MfAt W ⟨ms, px⟩ A' c' → Calls Try.prog 27 #[.agg #[.slice A' k c', .int .i64 px.f, .int .i64 px.s, .int .i64 px.o]] W fun e w' => ∃ D dc, e = .returned (.tuple #[.slice D xl dc, .int .i64 G]) ∧ RB w' w'.heap.size D X ∧ Below W.heap.size W w') := fun W hW => by
              have h := rmput_any ⟨ms, px⟩ A' c' W hW
              rw [hX] at h
              rw [← hms, hxl]
              exact h
            have HSX : Hid (∀ W D dc, RB W W.heap.size D X → (convert 22 9 (.slice D xl dc)).run Try.prog W = .ok (.string ⟨X.toArray⟩) W) := fun W D dc h => aw_str h xl dc hxl
            have HOk : Hid (sx.isNone = false → G = 0 → X = b → Mf.get b = (⟨ms, px⟩, 0)) := fun h1 h2 h3 => get_ok (own := M) hbf hX h1 h2 h3
            have HNo : Hid (sx.isNone = true ∨ G ≠ 0 ∨ X ≠ b → Mf.get b = (Mf.zero, 5)) := fun h => get_no (own := M) hbf hX h
            clear hbf hPr0 hX hxl ek eh hkm hms
            by_cases o1 : sx.isNone = true
            · have HBB : Hid (sx.isNone = true) := o1
              have HV : Hid (Mf.get b = (Mf.zero, 5)) := HNo.out (.inl o1)
              clear HNo HOk o1
              go_wp2_with (first
                | (go_at_call 27; (with_reducible refine (HPt.out _ (S9.1 px)).mono ?_); rintro e w8 ⟨D, dc, rfl, hrD, hb8⟩; have u2 := (blk3 (Blk.below T9.2.1 hb8 T9.2.1.lt)).2.2; have S8 := HG.out.seen h9 (T9.1.trans (Turns.of_below hb8 (fun j => j = gd + 1))); obtain ⟨q0, q1, q2, q3⟩ := blk4 S8.2.2.1; have qf := S8.2.2.1.frozen; have ql := S8.2.2.1.lt; have sx := HSX.out _ _ dc hrD; have sb := HSB.out _ S8.2.1; have k8 := Blk.below T9.2.2 hb8 T9.2.2.lt; rw [HMs.out] at k8; obtain ⟨t3, t4, t5, t6⟩ := blk4 k8; have fm := k8.frozen; have lm := k8.lt)
                | (go_at_call 26; (with_reducible refine (HTk.out _ _ _ hv7 (chainM HG.out.below (hb7.alloc hb7.size _))).mono ?_); rintro e w9 ⟨y0, y1, y2, he, hv9, hb9⟩; rw [HEx.out] at he hv9; obtain ⟨Y9, m9, d9, k9, x9, rfl, rfl, rfl⟩ := refv_parts hv9; have hx9 : x9 = sx.isNone := refv_bool hv9; rw [HBB.out] at hx9; subst hx9; subst he; have Kf := Blk.below (Blk.new w7 51 #[.slice Y7 m7 d7, .int .i64 (k7 : Int), .bool x7]) hb9 (by simp); obtain ⟨p0, p1, p2⟩ := blk3 Kf; have pf := Kf.frozen; have pl := Kf.lt; have G9 := (G7.up ((Below.refl _ _).alloc (Nat.le_refl _) (.cells #[.slice Y7 m7 d7, .int .i64 (k7 : Int), .bool x7] 51))).up hb9; have hc9 := G9.cells; rw [HMs.out] at hc9; obtain ⟨⟨t0, t1, t2⟩, ⟨t3, t4, t5, t6⟩, f1, f2, l1, l2⟩ := hc9; have T9 := snap_set HG.out ((hb7.alloc hb7.size (.cells #[.slice Y7 m7 d7, .int .i64 (k7 : Int), .bool x7] 51)).trans (hb9.mono (by have := hb7.size; simp; omega))) hb7.size Kf (.slice Y9 m9 d9) (.int .i64 (k9 : Int)) (.bool true) (.int .i64 px.f) (.int .i64 px.s) (.int .i64 px.o) (.cells #[.slice Y9 m9 d9, .int .i64 (k9 : Int), .bool true] 51) (.cells #[.int .i64 px.f, .int .i64 px.s, .int .i64 px.o] 27); have S9 := HG.out.seen h9 T9.1)
                | (go_at_call 25; (with_reducible refine (HNum.out _ _ _ HG.out.rd HG.out.below).mono ?_); rintro e w7 ⟨y0, y1, y2, he, hv7, hb7⟩; rw [HEh.out] at he hv7; obtain ⟨Y7, m7, d7, k7, x7, rfl, rfl, rfl⟩ := refv_parts hv7; subst he; have G7 := HG.out.up hb7; have hc7 := G7.cells; rw [HMs.out] at hc7; obtain ⟨⟨t0, t1, t2⟩, ⟨t3, t4, t5, t6⟩, f1, f2, l1, l2⟩ := hc7))
              obtain ⟨E, hE⟩ : ∃ E, E = ((((w8.setCell ⟨w.heap.size, 0, none⟩ (.slice none 0 0)).setCell ⟨w.heap.size, 1, none⟩ (.int .i64 0)).setCell ⟨w.heap.size, 2, none⟩ (.int .i64 0)).setCell ⟨w.heap.size, 3, none⟩ (.int .i64 0)) := ⟨_, rfl⟩
              obtain ⟨⟨r0, r1, r2, r3⟩, hbE, hm⟩ := man_end S8.2.1 S8.2.2.1 S8.2.2.2.1 hE
              rw [← hE]
              refine bodyPost_ret (v := .tuple #[.agg #[.slice none 0 0, .int .i64 0, .int .i64 0, .int .i64 0], .int .i64 5]) (by simp [results, Try.results7, go_sem, r0, r1, r2, r3]) rfl ?_
              rw [HV.out]
              exact ⟨none, 0, rfl, mfAt_zero E, hbE⟩
            · have HBB : Hid (sx.isNone = false) := Bool.eq_false_iff.2 o1
              by_cases o2 : G = 0
              · subst o2
                by_cases o3 : X = b
                · have HV : Hid (Mf.get b = (⟨ms, px⟩, 0)) := HOk.out HBB.out rfl o3
                  have v0 : (X == b) = true := (by rw [beq_iff_eq]; exact o3)
                  have v1 : (X != b) = false := (by rw [o3]; simp)
                  have v2 : decide (X = b) = true := decide_eq_true o3
                  clear HNo HOk o3 o1
                  go_wp2_with (first
                    | (go_at_call 27; (with_reducible refine (HPt.out _ (S9.1 px)).mono ?_); rintro e w8 ⟨D, dc, rfl, hrD, hb8⟩; have u2 := (blk3 (Blk.below T9.2.1 hb8 T9.2.1.lt)).2.2; have S8 := HG.out.seen h9 (T9.1.trans (Turns.of_below hb8 (fun j => j = gd + 1))); obtain ⟨q0, q1, q2, q3⟩ := blk4 S8.2.2.1; have qf := S8.2.2.1.frozen; have ql := S8.2.2.1.lt; have sx := HSX.out _ _ dc hrD; have sb := HSB.out _ S8.2.1; have k8 := Blk.below T9.2.2 hb8 T9.2.2.lt; rw [HMs.out] at k8; obtain ⟨t3, t4, t5, t6⟩ := blk4 k8; have fm := k8.frozen; have lm := k8.lt)
                    | (go_at_call 26; (with_reducible refine (HTk.out _ _ _ hv7 (chainM HG.out.below (hb7.alloc hb7.size _))).mono ?_); rintro e w9 ⟨y0, y1, y2, he, hv9, hb9⟩; rw [HEx.out] at he hv9; obtain ⟨Y9, m9, d9, k9, x9, rfl, rfl, rfl⟩ := refv_parts hv9; have hx9 : x9 = sx.isNone := refv_bool hv9; rw [HBB.out] at hx9; subst hx9; subst he; have Kf := Blk.below (Blk.new w7 51 #[.slice Y7 m7 d7, .int .i64 (k7 : Int), .bool x7]) hb9 (by simp); obtain ⟨p0, p1, p2⟩ := blk3 Kf; have pf := Kf.frozen; have pl := Kf.lt; have G9 := (G7.up ((Below.refl _ _).alloc (Nat.le_refl _) (.cells #[.slice Y7 m7 d7, .int .i64 (k7 : Int), .bool x7] 51))).up hb9; have hc9 := G9.cells; rw [HMs.out] at hc9; obtain ⟨⟨t0, t1, t2⟩, ⟨t3, t4, t5, t6⟩, f1, f2, l1, l2⟩ := hc9; have T9 := snap_set HG.out ((hb7.alloc hb7.size (.cells #[.slice Y7 m7 d7, .int .i64 (k7 : Int), .bool x7] 51)).trans (hb9.mono (by have := hb7.size; simp; omega))) hb7.size Kf (.slice Y9 m9 d9) (.int .i64 (k9 : Int)) (.bool false) (.int .i64 px.f) (.int .i64 px.s) (.int .i64 px.o) (.cells #[.slice Y9 m9 d9, .int .i64 (k9 : Int), .bool false] 51) (.cells #[.int .i64 px.f, .int .i64 px.s, .int .i64 px.o] 27); have S9 := HG.out.seen h9 T9.1)
                    | (go_at_call 25; (with_reducible refine (HNum.out _ _ _ HG.out.rd HG.out.below).mono ?_); rintro e w7 ⟨y0, y1, y2, he, hv7, hb7⟩; rw [HEh.out] at he hv7; obtain ⟨Y7, m7, d7, k7, x7, rfl, rfl, rfl⟩ := refv_parts hv7; subst he; have G7 := HG.out.up hb7; have hc7 := G7.cells; rw [HMs.out] at hc7; obtain ⟨⟨t0, t1, t2⟩, ⟨t3, t4, t5, t6⟩, f1, f2, l1, l2⟩ := hc7))
                  obtain ⟨E, hE⟩ : ∃ E, E = ((((w8.setCell ⟨w.heap.size, 0, none⟩ (.slice A' k c')).setCell ⟨w.heap.size, 1, none⟩ (.int .i64 px.f)).setCell ⟨w.heap.size, 2, none⟩ (.int .i64 px.s)).setCell ⟨w.heap.size, 3, none⟩ (.int .i64 px.o)) := ⟨_, rfl⟩
                  obtain ⟨⟨r0, r1, r2, r3⟩, hbE, hm⟩ := man_end S8.2.1 S8.2.2.1 S8.2.2.2.1 hE
                  rw [← hE]
                  refine bodyPost_ret (v := .tuple #[.agg #[.slice A' k c', .int .i64 px.f, .int .i64 px.s, .int .i64 px.o], .int .i64 0]) (by simp [results, Try.results7, go_sem, r0, r1, r2, r3]) rfl ?_
                  rw [HV.out]
                  refine ⟨A', c', ?_, hm _ _ _ (S8.1 px) S8.2.2.2.2, hbE⟩
                  show _ = Ending.returned (.tuple #[.agg #[.slice A' ms.length c', .int .i64 px.f, .int .i64 px.s, .int .i64 px.o], .int .i64 0])
                  rw [HMs.out]
                · have HV : Hid (Mf.get b = (Mf.zero, 5)) := HNo.out (.inr (.inr o3))
                  have v0 : (X == b) = false := (by rw [beq_eq_false_iff_ne]; exact o3)
                  have v1 : (X != b) = true := (by rw [bne_iff_ne]; exact o3)
                  have v2 : decide (X = b) = false := decide_eq_false o3
                  clear HNo HOk o3 o1
                  go_wp2_with (first
                    | (go_at_call 27; (with_reducible refine (HPt.out _ (S9.1 px)).mono ?_); rintro e w8 ⟨D, dc, rfl, hrD, hb8⟩; have u2 := (blk3 (Blk.below T9.2.1 hb8 T9.2.1.lt)).2.2; have S8 := HG.out.seen h9 (T9.1.trans (Turns.of_below hb8 (fun j => j = gd + 1))); obtain ⟨q0, q1, q2, q3⟩ := blk4 S8.2.2.1; have qf := S8.2.2.1.frozen; have ql := S8.2.2.1.lt; have sx := HSX.out _ _ dc hrD; have sb := HSB.out _ S8.2.1; have k8 := Blk.below T9.2.2 hb8 T9.2.2.lt; rw [HMs.out] at k8; obtain ⟨t3, t4, t5, t6⟩ := blk4 k8; have fm := k8.frozen; have lm := k8.lt)
                    | (go_at_call 26; (with_reducible refine (HTk.out _ _ _ hv7 (chainM HG.out.below (hb7.alloc hb7.size _))).mono ?_); rintro e w9 ⟨y0, y1, y2, he, hv9, hb9⟩; rw [HEx.out] at he hv9; obtain ⟨Y9, m9, d9, k9, x9, rfl, rfl, rfl⟩ := refv_parts hv9; have hx9 : x9 = sx.isNone := refv_bool hv9; rw [HBB.out] at hx9; subst hx9; subst he; have Kf := Blk.below (Blk.new w7 51 #[.slice Y7 m7 d7, .int .i64 (k7 : Int), .bool x7]) hb9 (by simp); obtain ⟨p0, p1, p2⟩ := blk3 Kf; have pf := Kf.frozen; have pl := Kf.lt; have G9 := (G7.up ((Below.refl _ _).alloc (Nat.le_refl _) (.cells #[.slice Y7 m7 d7, .int .i64 (k7 : Int), .bool x7] 51))).up hb9; have hc9 := G9.cells; rw [HMs.out] at hc9; obtain ⟨⟨t0, t1, t2⟩, ⟨t3, t4, t5, t6⟩, f1, f2, l1, l2⟩ := hc9; have T9 := snap_set HG.out ((hb7.alloc hb7.size (.cells #[.slice Y7 m7 d7, .int .i64 (k7 : Int), .bool x7] 51)).trans (hb9.mono (by have := hb7.size; simp; omega))) hb7.size Kf (.slice Y9 m9 d9) (.int .i64 (k9 : Int)) (.bool false) (.int .i64 px.f) (.int .i64 px.s) (.int .i64 px.o) (.cells #[.slice Y9 m9 d9, .int .i64 (k9 : Int), .bool false] 51) (.cells #[.int .i64 px.f, .int .i64 px.s, .int .i64 px.o] 27); have S9 := HG.out.seen h9 T9.1)
                    | (go_at_call 25; (with_reducible refine (HNum.out _ _ _ HG.out.rd HG.out.below).mono ?_); rintro e w7 ⟨y0, y1, y2, he, hv7, hb7⟩; rw [HEh.out] at he hv7; obtain ⟨Y7, m7, d7, k7, x7, rfl, rfl, rfl⟩ := refv_parts hv7; subst he; have G7 := HG.out.up hb7; have hc7 := G7.cells; rw [HMs.out] at hc7; obtain ⟨⟨t0, t1, t2⟩, ⟨t3, t4, t5, t6⟩, f1, f2, l1, l2⟩ := hc7))
                  obtain ⟨E, hE⟩ : ∃ E, E = ((((w8.setCell ⟨w.heap.size, 0, none⟩ (.slice none 0 0)).setCell ⟨w.heap.size, 1, none⟩ (.int .i64 0)).setCell ⟨w.heap.size, 2, none⟩ (.int .i64 0)).setCell ⟨w.heap.size, 3, none⟩ (.int .i64 0)) := ⟨_, rfl⟩
                  obtain ⟨⟨r0, r1, r2, r3⟩, hbE, hm⟩ := man_end S8.2.1 S8.2.2.1 S8.2.2.2.1 hE
                  rw [← hE]
                  refine bodyPost_ret (v := .tuple #[.agg #[.slice none 0 0, .int .i64 0, .int .i64 0, .int .i64 0], .int .i64 5]) (by simp [results, Try.results7, go_sem, r0, r1, r2, r3]) rfl ?_
                  rw [HV.out]
                  exact ⟨none, 0, rfl, mfAt_zero E, hbE⟩
              · have HV : Hid (Mf.get b = (Mf.zero, 5)) := HNo.out (.inr (.inl o2))
                have v0 : decide (G = 0) = false := decide_eq_false o2
                have v1 : (G == 0) = false := (by rw [beq_eq_false_iff_ne]; exact o2)
                have v2 : (G != 0) = true := (by rw [bne_iff_ne]; exact o2)
                clear HNo HOk o2 o1
                go_wp2_with (first
                  | (go_at_call 27; (with_reducible refine (HPt.out _ (S9.1 px)).mono ?_); rintro e w8 ⟨D, dc, rfl, hrD, hb8⟩; have u2 := (blk3 (Blk.below T9.2.1 hb8 T9.2.1.lt)).2.2; have S8 := HG.out.seen h9 (T9.1.trans (Turns.of_below hb8 (fun j => j = gd + 1))); obtain ⟨q0, q1, q2, q3⟩ := blk4 S8.2.2.1; have qf := S8.2.2.1.frozen; have ql := S8.2.2.1.lt; have sx := HSX.out _ _ dc hrD; have sb := HSB.out _ S8.2.1; have k8 := Blk.below T9.2.2 hb8 T9.2.2.lt; rw [HMs.out] at k8; obtain ⟨t3, t4, t5, t6⟩ := blk4 k8; have fm := k8.frozen; have lm := k8.lt)
                  | (go_at_call 26; (with_reducible refine (HTk.out _ _ _ hv7 (chainM HG.out.below (hb7.alloc hb7.size _))).mono ?_); rintro e w9 ⟨y0, y1, y2, he, hv9, hb9⟩; rw [HEx.out] at he hv9; obtain ⟨Y9, m9, d9, k9, x9, rfl, rfl, rfl⟩ := refv_parts hv9; have hx9 : x9 = sx.isNone := refv_bool hv9; rw [HBB.out] at hx9; subst hx9; subst he; have Kf := Blk.below (Blk.new w7 51 #[.slice Y7 m7 d7, .int .i64 (k7 : Int), .bool x7]) hb9 (by simp); obtain ⟨p0, p1, p2⟩ := blk3 Kf; have pf := Kf.frozen; have pl := Kf.lt; have G9 := (G7.up ((Below.refl _ _).alloc (Nat.le_refl _) (.cells #[.slice Y7 m7 d7, .int .i64 (k7 : Int), .bool x7] 51))).up hb9; have hc9 := G9.cells; rw [HMs.out] at hc9; obtain ⟨⟨t0, t1, t2⟩, ⟨t3, t4, t5, t6⟩, f1, f2, l1, l2⟩ := hc9; have T9 := snap_set HG.out ((hb7.alloc hb7.size (.cells #[.slice Y7 m7 d7, .int .i64 (k7 : Int), .bool x7] 51)).trans (hb9.mono (by have := hb7.size; simp; omega))) hb7.size Kf (.slice Y9 m9 d9) (.int .i64 (k9 : Int)) (.bool false) (.int .i64 px.f) (.int .i64 px.s) (.int .i64 px.o) (.cells #[.slice Y9 m9 d9, .int .i64 (k9 : Int), .bool false] 51) (.cells #[.int .i64 px.f, .int .i64 px.s, .int .i64 px.o] 27); have S9 := HG.out.seen h9 T9.1)
                  | (go_at_call 25; (with_reducible refine (HNum.out _ _ _ HG.out.rd HG.out.below).mono ?_); rintro e w7 ⟨y0, y1, y2, he, hv7, hb7⟩; rw [HEh.out] at he hv7; obtain ⟨Y7, m7, d7, k7, x7, rfl, rfl, rfl⟩ := refv_parts hv7; subst he; have G7 := HG.out.up hb7; have hc7 := G7.cells; rw [HMs.out] at hc7; obtain ⟨⟨t0, t1, t2⟩, ⟨t3, t4, t5, t6⟩, f1, f2, l1, l2⟩ := hc7))
                obtain ⟨E, hE⟩ : ∃ E, E = ((((w8.setCell ⟨w.heap.size, 0, none⟩ (.slice none 0 0)).setCell ⟨w.heap.size, 1, none⟩ (.int .i64 0)).setCell ⟨w.heap.size, 2, none⟩ (.int .i64 0)).setCell ⟨w.heap.size, 3, none⟩ (.int .i64 0)) := ⟨_, rfl⟩
                obtain ⟨⟨r0, r1, r2, r3⟩, hbE, hm⟩ := man_end S8.2.1 S8.2.2.1 S8.2.2.2.1 hE
                rw [← hE]
                refine bodyPost_ret (v := .tuple #[.agg #[.slice none 0 0, .int .i64 0, .int .i64 0, .int .i64 0], .int .i64 5]) (by simp [results, Try.results7, go_sem, r0, r1, r2, r3]) rfl ?_
                rw [HV.out]
                exact ⟨none, 0, rfl, mfAt_zero E, hbE⟩
          · rw [if_neg h1] at hbf
            have e1 : decide ((nh : Int) = 1) = false := decide_eq_false (by omega)
            have e2 : ((nh : Int) == 1) = false := by rw [beq_eq_false_iff_ne]; omega
            have e3 : (nh == 1) = false := by rw [beq_eq_false_iff_ne]; omega
            have e4 : decide (nh = 1) = false := decide_eq_false h1
            obtain ⟨X, G, hX⟩ : ∃ X G, Mf.put ⟨ms, Pt.z⟩ = (X, G) := ⟨_, _, rfl⟩
            obtain ⟨xl, hxl⟩ : ∃ x, x = X.length := ⟨_, rfl⟩
            have HPt : Hid (∀ W, MfAt W ⟨ms, Pt.z⟩ A' c' → Calls Try.prog 27 #[.agg #[.slice A' k c', .int .i64 Pt.z.f, .int .i64 Pt.z.s, .int .i64 Pt.z.o]] W fun e w' => ∃ D dc, e = .returned (.tuple #[.slice D xl dc, .int .i64 G]) ∧ RB w' w'.heap.size D X ∧ Below W.heap.size W w') := fun W hW => by
              have h := rmput_any ⟨ms, Pt.z⟩ A' c' W hW
              rw [hX] at h
              rw [← hms, hxl]
              exact h
            have HSX : Hid (∀ W D dc, RB W W.heap.size D X → (convert 22 9 (.slice D xl dc)).run Try.prog W = .ok (.string ⟨X.toArray⟩) W) := fun W D dc h => aw_str h xl dc hxl
            have HOk : Hid (sf.isNone = false → G = 0 → X = b → Mf.get b = (⟨ms, Pt.z⟩, 0)) := fun h1 h2 h3 => get_ok (own := M) hbf hX h1 h2 h3
            have HNo : Hid (sf.isNone = true ∨ G ≠ 0 ∨ X ≠ b → Mf.get b = (Mf.zero, 5)) := fun h => get_no (own := M) hbf hX h
            clear hbf hPr0 hX hxl ek eh hkm hms
            by_cases o1 : sf.isNone = true
            · have HBB : Hid (sf.isNone = true) := o1
              have HV : Hid (Mf.get b = (Mf.zero, 5)) := HNo.out (.inl o1)
              clear HNo HOk o1
              go_wp2_with (first
                | (go_at_call 27; (with_reducible refine (HPt.out _ (S7.1 Pt.z)).mono ?_); rintro e w8 ⟨D, dc, rfl, hrD, hb8⟩; have u2 : w8.cell? ⟨w7.heap.size, 2, none⟩ = some (.bool true) := (by rw [(Blk.below (Blk.new w7 51 #[.slice Y7 m7 d7, .int .i64 (k7 : Int), .bool true]) hb8 (by simp)).cell]; rfl); have S8 := HG.out.seen h9 (Turns.of_below ((hb7.alloc hb7.size (.cells #[.slice Y7 m7 d7, .int .i64 (k7 : Int), .bool true] 51)).trans (hb8.mono (by have := hb7.size; simp; omega))) (fun j => j = gd + 1)); obtain ⟨q0, q1, q2, q3⟩ := blk4 S8.2.2.1; have qf := S8.2.2.1.frozen; have ql := S8.2.2.1.lt; have sx := HSX.out _ _ dc hrD; have sb := HSB.out _ S8.2.1; have G8 := (G7.up ((Below.refl _ _).alloc (Nat.le_refl _) (.cells #[.slice Y7 m7 d7, .int .i64 (k7 : Int), .bool true] 51))).up hb8; have hc8 := G8.cells; rw [HMs.out] at hc8; obtain ⟨_, ⟨t3, t4, t5, t6⟩, f1, f2, l1, l2⟩ := hc8)
                | (go_at_call 25; (with_reducible refine (HNum.out _ _ _ HG.out.rd HG.out.below).mono ?_); rintro e w7 ⟨y0, y1, y2, he, hv7, hb7⟩; rw [HEh.out] at he hv7; obtain ⟨Y7, m7, d7, k7, x7, rfl, rfl, rfl⟩ := refv_parts hv7; have hx7 : x7 = sf.isNone := refv_bool hv7; rw [HBB.out] at hx7; subst hx7; subst he; have G7 := HG.out.up hb7; have hc7 := G7.cells; rw [HMs.out] at hc7; obtain ⟨⟨t0, t1, t2⟩, ⟨t3, t4, t5, t6⟩, f1, f2, l1, l2⟩ := hc7; have S7 := HG.out.seen h9 (Turns.of_below (hb7.alloc hb7.size (.cells #[.slice Y7 m7 d7, .int .i64 (k7 : Int), .bool true] 51)) (fun j => j = gd + 1))))
              obtain ⟨E, hE⟩ : ∃ E, E = ((((w8.setCell ⟨w.heap.size, 0, none⟩ (.slice none 0 0)).setCell ⟨w.heap.size, 1, none⟩ (.int .i64 0)).setCell ⟨w.heap.size, 2, none⟩ (.int .i64 0)).setCell ⟨w.heap.size, 3, none⟩ (.int .i64 0)) := ⟨_, rfl⟩
              obtain ⟨⟨r0, r1, r2, r3⟩, hbE, hm⟩ := man_end S8.2.1 S8.2.2.1 S8.2.2.2.1 hE
              rw [← hE]
              refine bodyPost_ret (v := .tuple #[.agg #[.slice none 0 0, .int .i64 0, .int .i64 0, .int .i64 0], .int .i64 5]) (by simp [results, Try.results7, go_sem, r0, r1, r2, r3]) rfl ?_
              rw [HV.out]
              exact ⟨none, 0, rfl, mfAt_zero E, hbE⟩
            · have HBB : Hid (sf.isNone = false) := Bool.eq_false_iff.2 o1
              by_cases o2 : G = 0
              · subst o2
                by_cases o3 : X = b
                · have HV : Hid (Mf.get b = (⟨ms, Pt.z⟩, 0)) := HOk.out HBB.out rfl o3
                  have v0 : (X == b) = true := (by rw [beq_iff_eq]; exact o3)
                  have v1 : (X != b) = false := (by rw [o3]; simp)
                  have v2 : decide (X = b) = true := decide_eq_true o3
                  clear HNo HOk o3 o1
                  go_wp2_with (first
                    | (go_at_call 27; (with_reducible refine (HPt.out _ (S7.1 Pt.z)).mono ?_); rintro e w8 ⟨D, dc, rfl, hrD, hb8⟩; have u2 : w8.cell? ⟨w7.heap.size, 2, none⟩ = some (.bool false) := (by rw [(Blk.below (Blk.new w7 51 #[.slice Y7 m7 d7, .int .i64 (k7 : Int), .bool false]) hb8 (by simp)).cell]; rfl); have S8 := HG.out.seen h9 (Turns.of_below ((hb7.alloc hb7.size (.cells #[.slice Y7 m7 d7, .int .i64 (k7 : Int), .bool false] 51)).trans (hb8.mono (by have := hb7.size; simp; omega))) (fun j => j = gd + 1)); obtain ⟨q0, q1, q2, q3⟩ := blk4 S8.2.2.1; have qf := S8.2.2.1.frozen; have ql := S8.2.2.1.lt; have sx := HSX.out _ _ dc hrD; have sb := HSB.out _ S8.2.1; have G8 := (G7.up ((Below.refl _ _).alloc (Nat.le_refl _) (.cells #[.slice Y7 m7 d7, .int .i64 (k7 : Int), .bool false] 51))).up hb8; have hc8 := G8.cells; rw [HMs.out] at hc8; obtain ⟨_, ⟨t3, t4, t5, t6⟩, f1, f2, l1, l2⟩ := hc8)
                    | (go_at_call 25; (with_reducible refine (HNum.out _ _ _ HG.out.rd HG.out.below).mono ?_); rintro e w7 ⟨y0, y1, y2, he, hv7, hb7⟩; rw [HEh.out] at he hv7; obtain ⟨Y7, m7, d7, k7, x7, rfl, rfl, rfl⟩ := refv_parts hv7; have hx7 : x7 = sf.isNone := refv_bool hv7; rw [HBB.out] at hx7; subst hx7; subst he; have G7 := HG.out.up hb7; have hc7 := G7.cells; rw [HMs.out] at hc7; obtain ⟨⟨t0, t1, t2⟩, ⟨t3, t4, t5, t6⟩, f1, f2, l1, l2⟩ := hc7; have S7 := HG.out.seen h9 (Turns.of_below (hb7.alloc hb7.size (.cells #[.slice Y7 m7 d7, .int .i64 (k7 : Int), .bool false] 51)) (fun j => j = gd + 1))))
                  obtain ⟨E, hE⟩ : ∃ E, E = ((((w8.setCell ⟨w.heap.size, 0, none⟩ (.slice A' k c')).setCell ⟨w.heap.size, 1, none⟩ (.int .i64 Pt.z.f)).setCell ⟨w.heap.size, 2, none⟩ (.int .i64 Pt.z.s)).setCell ⟨w.heap.size, 3, none⟩ (.int .i64 Pt.z.o)) := ⟨_, rfl⟩
                  obtain ⟨⟨r0, r1, r2, r3⟩, hbE, hm⟩ := man_end S8.2.1 S8.2.2.1 S8.2.2.2.1 hE
                  rw [← hE]
                  refine bodyPost_ret (v := .tuple #[.agg #[.slice A' k c', .int .i64 Pt.z.f, .int .i64 Pt.z.s, .int .i64 Pt.z.o], .int .i64 0]) (by simp [results, Try.results7, go_sem, r0, r1, r2, r3]) rfl ?_
                  rw [HV.out]
                  refine ⟨A', c', ?_, hm _ _ _ (S8.1 Pt.z) S8.2.2.2.2, hbE⟩
                  show _ = Ending.returned (.tuple #[.agg #[.slice A' ms.length c', .int .i64 Pt.z.f, .int .i64 Pt.z.s, .int .i64 Pt.z.o], .int .i64 0])
                  rw [HMs.out]
                · have HV : Hid (Mf.get b = (Mf.zero, 5)) := HNo.out (.inr (.inr o3))
                  have v0 : (X == b) = false := (by rw [beq_eq_false_iff_ne]; exact o3)
                  have v1 : (X != b) = true := (by rw [bne_iff_ne]; exact o3)
                  have v2 : decide (X = b) = false := decide_eq_false o3
                  clear HNo HOk o3 o1
                  go_wp2_with (first
                    | (go_at_call 27; (with_reducible refine (HPt.out _ (S7.1 Pt.z)).mono ?_); rintro e w8 ⟨D, dc, rfl, hrD, hb8⟩; have u2 : w8.cell? ⟨w7.heap.size, 2, none⟩ = some (.bool false) := (by rw [(Blk.below (Blk.new w7 51 #[.slice Y7 m7 d7, .int .i64 (k7 : Int), .bool false]) hb8 (by simp)).cell]; rfl); have S8 := HG.out.seen h9 (Turns.of_below ((hb7.alloc hb7.size (.cells #[.slice Y7 m7 d7, .int .i64 (k7 : Int), .bool false] 51)).trans (hb8.mono (by have := hb7.size; simp; omega))) (fun j => j = gd + 1)); obtain ⟨q0, q1, q2, q3⟩ := blk4 S8.2.2.1; have qf := S8.2.2.1.frozen; have ql := S8.2.2.1.lt; have sx := HSX.out _ _ dc hrD; have sb := HSB.out _ S8.2.1; have G8 := (G7.up ((Below.refl _ _).alloc (Nat.le_refl _) (.cells #[.slice Y7 m7 d7, .int .i64 (k7 : Int), .bool false] 51))).up hb8; have hc8 := G8.cells; rw [HMs.out] at hc8; obtain ⟨_, ⟨t3, t4, t5, t6⟩, f1, f2, l1, l2⟩ := hc8)
                    | (go_at_call 25; (with_reducible refine (HNum.out _ _ _ HG.out.rd HG.out.below).mono ?_); rintro e w7 ⟨y0, y1, y2, he, hv7, hb7⟩; rw [HEh.out] at he hv7; obtain ⟨Y7, m7, d7, k7, x7, rfl, rfl, rfl⟩ := refv_parts hv7; have hx7 : x7 = sf.isNone := refv_bool hv7; rw [HBB.out] at hx7; subst hx7; subst he; have G7 := HG.out.up hb7; have hc7 := G7.cells; rw [HMs.out] at hc7; obtain ⟨⟨t0, t1, t2⟩, ⟨t3, t4, t5, t6⟩, f1, f2, l1, l2⟩ := hc7; have S7 := HG.out.seen h9 (Turns.of_below (hb7.alloc hb7.size (.cells #[.slice Y7 m7 d7, .int .i64 (k7 : Int), .bool false] 51)) (fun j => j = gd + 1))))
                  obtain ⟨E, hE⟩ : ∃ E, E = ((((w8.setCell ⟨w.heap.size, 0, none⟩ (.slice none 0 0)).setCell ⟨w.heap.size, 1, none⟩ (.int .i64 0)).setCell ⟨w.heap.size, 2, none⟩ (.int .i64 0)).setCell ⟨w.heap.size, 3, none⟩ (.int .i64 0)) := ⟨_, rfl⟩
                  obtain ⟨⟨r0, r1, r2, r3⟩, hbE, hm⟩ := man_end S8.2.1 S8.2.2.1 S8.2.2.2.1 hE
                  rw [← hE]
                  refine bodyPost_ret (v := .tuple #[.agg #[.slice none 0 0, .int .i64 0, .int .i64 0, .int .i64 0], .int .i64 5]) (by simp [results, Try.results7, go_sem, r0, r1, r2, r3]) rfl ?_
                  rw [HV.out]
                  exact ⟨none, 0, rfl, mfAt_zero E, hbE⟩
              · have HV : Hid (Mf.get b = (Mf.zero, 5)) := HNo.out (.inr (.inl o2))
                have v0 : decide (G = 0) = false := decide_eq_false o2
                have v1 : (G == 0) = false := (by rw [beq_eq_false_iff_ne]; exact o2)
                have v2 : (G != 0) = true := (by rw [bne_iff_ne]; exact o2)
                clear HNo HOk o2 o1
                go_wp2_with (first
                  | (go_at_call 27; (with_reducible refine (HPt.out _ (S7.1 Pt.z)).mono ?_); rintro e w8 ⟨D, dc, rfl, hrD, hb8⟩; have u2 : w8.cell? ⟨w7.heap.size, 2, none⟩ = some (.bool false) := (by rw [(Blk.below (Blk.new w7 51 #[.slice Y7 m7 d7, .int .i64 (k7 : Int), .bool false]) hb8 (by simp)).cell]; rfl); have S8 := HG.out.seen h9 (Turns.of_below ((hb7.alloc hb7.size (.cells #[.slice Y7 m7 d7, .int .i64 (k7 : Int), .bool false] 51)).trans (hb8.mono (by have := hb7.size; simp; omega))) (fun j => j = gd + 1)); obtain ⟨q0, q1, q2, q3⟩ := blk4 S8.2.2.1; have qf := S8.2.2.1.frozen; have ql := S8.2.2.1.lt; have sx := HSX.out _ _ dc hrD; have sb := HSB.out _ S8.2.1; have G8 := (G7.up ((Below.refl _ _).alloc (Nat.le_refl _) (.cells #[.slice Y7 m7 d7, .int .i64 (k7 : Int), .bool false] 51))).up hb8; have hc8 := G8.cells; rw [HMs.out] at hc8; obtain ⟨_, ⟨t3, t4, t5, t6⟩, f1, f2, l1, l2⟩ := hc8)
                  | (go_at_call 25; (with_reducible refine (HNum.out _ _ _ HG.out.rd HG.out.below).mono ?_); rintro e w7 ⟨y0, y1, y2, he, hv7, hb7⟩; rw [HEh.out] at he hv7; obtain ⟨Y7, m7, d7, k7, x7, rfl, rfl, rfl⟩ := refv_parts hv7; have hx7 : x7 = sf.isNone := refv_bool hv7; rw [HBB.out] at hx7; subst hx7; subst he; have G7 := HG.out.up hb7; have hc7 := G7.cells; rw [HMs.out] at hc7; obtain ⟨⟨t0, t1, t2⟩, ⟨t3, t4, t5, t6⟩, f1, f2, l1, l2⟩ := hc7; have S7 := HG.out.seen h9 (Turns.of_below (hb7.alloc hb7.size (.cells #[.slice Y7 m7 d7, .int .i64 (k7 : Int), .bool false] 51)) (fun j => j = gd + 1))))
                obtain ⟨E, hE⟩ : ∃ E, E = ((((w8.setCell ⟨w.heap.size, 0, none⟩ (.slice none 0 0)).setCell ⟨w.heap.size, 1, none⟩ (.int .i64 0)).setCell ⟨w.heap.size, 2, none⟩ (.int .i64 0)).setCell ⟨w.heap.size, 3, none⟩ (.int .i64 0)) := ⟨_, rfl⟩
                obtain ⟨⟨r0, r1, r2, r3⟩, hbE, hm⟩ := man_end S8.2.1 S8.2.2.1 S8.2.2.2.1 hE
                rw [← hE]
                refine bodyPost_ret (v := .tuple #[.agg #[.slice none 0 0, .int .i64 0, .int .i64 0, .int .i64 0], .int .i64 5]) (by simp [results, Try.results7, go_sem, r0, r1, r2, r3]) rfl ?_
                rw [HV.out]
                exact ⟨none, 0, rfl, mfAt_zero E, hbE⟩
end Go.Proofs.Ytnmcohdlogepdaa
end
section
set_option linter.unusedVariables false
set_option linter.unusedSimpArgs false
namespace Go.Proofs.Ytnmcohdlogepdaa
open Go.RowKit
theorem Try.partEqS (a b c : Int) (w : World) : Sem.run Try.prog (binOp .eql 27 (.agg #[.int .i64 a, .int .i64 b, .int .i64 c]) (.agg #[.int .i64 a, .int .i64 b, .int .i64 c])) w = .ok (.bool true) w := by
  simp [go_sem]
set_option maxRecDepth 100000 in
set_option maxHeartbeats 4000000 in
theorem pequal_yes (l : List Pt) (n : Nat) (A A' : Option Addr) (c c' : Nat) (w : World) (hn : n = l.length) (hn1 : n ≤ 1000) (h : PtL w w.heap.size A l) (h' : PtL w w.heap.size A' l) : Calls Try.prog 32 #[.slice A n c, .slice A' n c'] w fun e w' => e = .returned (.bool true) ∧ Below w.heap.size w w' := by
  have H1 := Lib.hid h
  have H2 := Lib.hid h'
  have Hn := Lib.hid hn
  have a27 := fun w' => Try.partAgg w'
  have s27 := fun w' => Try.partSize w'
  have e27 := fun a b c w' => Try.partNeS a b c w'
  clear h h' hn
  go_enter Try.func32, Try.ntmps32
  go_wp2
  go_loopw [13] (fun x wr => ∃ i : Nat, i ≤ n ∧ x = .int .i64 (i : Int) ∧ Hid (Below w.heap.size w wr)) (fun x _ => n - (intOf x).toNat)
  case atStart => exact ⟨0, by omega, rfl, Below.refl _ _⟩
  case round =>
    obtain ⟨i, hi, rfl, HB⟩ := hrel
    by_cases hlt : i < n
    · have hi2 : i < l.length := by have := Hn.out; omega
      obtain ⟨b1, o1, rfl, hb1, hc1⟩ := H1.out (by omega)
      obtain ⟨b2, o2, rfl, hb2, hc2⟩ := H2.out (by omega)
      obtain ⟨k0, k1, k2⟩ := hc1 i hi2
      obtain ⟨j0, j1, j2⟩ := hc2 i hi2
      obtain ⟨pf, hpf⟩ : ∃ x, x = l[i].f := ⟨_, rfl⟩
      obtain ⟨ps, hps⟩ : ∃ x, x = l[i].s := ⟨_, rfl⟩
      obtain ⟨po, hpo⟩ : ∃ x, x = l[i].o := ⟨_, rfl⟩
      rw [← hpf] at k0 j0
      rw [← hps] at k1 j1
      rw [← hpo] at k2 j2
      have hbo := HB.out
      have v0 : wr.cell? ⟨b1, o1 + i * 3, none⟩ = some (.int .i64 pf) := (hbo.cell (p := ⟨b1, o1 + i * 3, none⟩) hb1).trans k0
      have v1 : wr.cell? ⟨b1, o1 + i * 3 + 1, none⟩ = some (.int .i64 ps) := (hbo.cell (p := ⟨b1, o1 + i * 3 + 1, none⟩) hb1).trans k1
      have v2 : wr.cell? ⟨b1, o1 + i * 3 + 2, none⟩ = some (.int .i64 po) := (hbo.cell (p := ⟨b1, o1 + i * 3 + 2, none⟩) hb1).trans k2
      have x0 : wr.cell? ⟨b2, o2 + i * 3, none⟩ = some (.int .i64 pf) := (hbo.cell (p := ⟨b2, o2 + i * 3, none⟩) hb2).trans j0
      have x1 : wr.cell? ⟨b2, o2 + i * 3 + 1, none⟩ = some (.int .i64 ps) := (hbo.cell (p := ⟨b2, o2 + i * 3 + 1, none⟩) hb2).trans j1
      have x2 : wr.cell? ⟨b2, o2 + i * 3 + 2, none⟩ = some (.int .i64 po) := (hbo.cell (p := ⟨b2, o2 + i * 3 + 2, none⟩) hb2).trans j2
      have d0 : decide ((i : Int) < (n : Int)) = true := decide_eq_true (by omega)
      have d1 : decide (i < n) = true := decide_eq_true hlt
      have y7 : IntKind.i64.wrap ((i : Int) + 1) = (i : Int) + 1 := IntWalk.i64_in _ (by omega)
      clear hc1 hc2 k0 k1 k2 j0 j1 j2 hpf hps hpo hbo hb1 hb2
      go_wp2
      go_region
      go_wp2
      go_roundw
      case rel => exact ⟨i + 1, by omega, by go_num, HB.out.drew⟩
      case measure => simp [intOf]; omega
    · have d0 : decide ((i : Int) < (n : Int)) = false := decide_eq_false (by omega)
      have d1 : decide (i < n) = false := decide_eq_false hlt
      go_wp2
      go_ret
      exact ⟨rfl, HB.out⟩
set_option maxRecDepth 100000 in
set_option maxHeartbeats 4000000 in
theorem msame_yes (m : Mf) (A A' : Option Addr) (c c' : Nat) (w : World) (h : MfAt w m A c) (h' : MfAt w m A' c') : Calls Try.prog 12 #[mfV m A c, mfV m A' c'] w fun e w' => e = .returned (.bool true) ∧ Below w.heap.size w w' := by
  obtain ⟨sg, sn⟩ := m
  obtain ⟨f, s, o⟩ := sn
  obtain ⟨n, hn⟩ : ∃ n, n = sg.length := ⟨_, rfl⟩
  have hn1 : n ≤ 1000 := by rw [hn]; exact h.few
  unfold mfV
  simp only
  rw [← hn]
  obtain ⟨w1, hw1⟩ : ∃ w1, w1 = (w.alloc (.cells #[.slice A n c, .int .i64 f, .int .i64 s, .int .i64 o] 29)).alloc (.cells #[.slice A' n c', .int .i64 f, .int .i64 s, .int .i64 o] 29) := ⟨_, rfl⟩
  have HB : Hid (Below w.heap.size w w1) := by
    show Below _ _ _
    rw [hw1]
    exact ((Below.refl _ _).alloc (Nat.le_refl _) _).alloc ((Below.refl _ _).alloc (Nat.le_refl _) _).size _
  have HE : Hid (∀ W, Below w1.heap.size w1 W → Calls Try.prog 32 #[.slice A n c, .slice A' n c'] W fun e w' => e = .returned (.bool true) ∧ Below W.heap.size W w') := fun W hb => pequal_yes sg n A A' c c' W hn hn1 ((h.up (chainM HB.out hb)).segs) ((h'.up (chainM HB.out hb)).segs)
  have HK : Hid (∀ W, Below w1.heap.size w1 W → (W.cell? ⟨w.heap.size, 0, none⟩ = some (.slice A n c) ∧ W.cell? ⟨w.heap.size, 1, none⟩ = some (.int .i64 f) ∧ W.cell? ⟨w.heap.size, 2, none⟩ = some (.int .i64 s) ∧ W.cell? ⟨w.heap.size, 3, none⟩ = some (.int .i64 o)) ∧ (W.cell? ⟨w.heap.size + 1, 0, none⟩ = some (.slice A' n c') ∧ W.cell? ⟨w.heap.size + 1, 1, none⟩ = some (.int .i64 f) ∧ W.cell? ⟨w.heap.size + 1, 2, none⟩ = some (.int .i64 s) ∧ W.cell? ⟨w.heap.size + 1, 3, none⟩ = some (.int .i64 o))) := fun W hb => by
    have e : (w.alloc (.cells #[.slice A n c, .int .i64 f, .int .i64 s, .int .i64 o] 29)).heap.size = w.heap.size + 1 := by simp
    have h1 := man_at (w.alloc (.cells #[.slice A n c, .int .i64 f, .int .i64 s, .int .i64 o] 29)) W A' n c' f s o (by rw [← hw1]; exact hb)
    rw [e] at h1
    refine ⟨man_at w W A n c f s o ?_, h1⟩
    have h2 : Below (w.alloc (.cells #[.slice A n c, .int .i64 f, .int .i64 s, .int .i64 o] 29)).heap.size (w.alloc (.cells #[.slice A n c, .int .i64 f, .int .i64 s, .int .i64 o] 29)) w1 := by rw [hw1]; exact (Below.refl _ _).alloc (Nat.le_refl _) _
    exact chainM h2 hb
  have a29 := fun w' => Try.manAgg w'
  have s29 := fun w' => Try.manSize w'
  have a27 := fun w' => Try.partAgg w'
  have s27 := fun w' => Try.partSize w'
  have e27 := fun w' => Try.partEqS f s o w'
  have Hw := Lib.hid hw1
  clear h h' hn hw1
  go_enter Try.func12, Try.ntmps12
  go_upto_region 1 with (fail)
  rw [← Hw.out]
  obtain ⟨ga, hga⟩ : ∃ g, g = w.heap.size := ⟨_, rfl⟩
  rw [← hga] at HK
  rw [← hga]
  clear hga
  have b0 : Below w1.heap.size w1 w1 := Below.refl _ _
  obtain ⟨⟨k0, k1, k2, k3⟩, j0, j1, j2, j3⟩ := HK.out _ b0
  go_wp2_with (first
      | (go_at_call 32; (with_reducible refine (HE.out _ b0).mono ?_); rintro e w2 ⟨rfl, b2⟩; obtain ⟨⟨q0, q1, q2, q3⟩, p0, p1, p2, p3⟩ := HK.out _ b2))
  go_ret
  exact ⟨rfl, chainM HB.out b2⟩
end Go.Proofs.Ytnmcohdlogepdaa
end
