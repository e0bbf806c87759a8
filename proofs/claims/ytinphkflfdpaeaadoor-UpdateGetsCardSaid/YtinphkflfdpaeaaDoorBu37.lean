/- Lemmas under the proofs of this place: UpGetM, OpRGet. No statement is proved here. -/
import Derived.Test.YtinphkflfdpaeaaDoorBu33
import Derived.Test.YtinphkflfdpaeaaDoorBu36
import Derived.Deep.CutRange
import Derived.BigQuiet
set_option linter.unusedSimpArgs false
set_option linter.unusedVariables false
set_option maxRecDepth 100000
set_option maxHeartbeats 16000000
namespace Go.Proofs.YtinphkflfdpaeaaDoor
section
open Go.RowKit
theorem append_sone {ops : Array Oper} {rest : List Oper} {o : Oper} {a : Act} {Q : Exit → Act → World → Prop} (hgd : o.guard = none) (s x : Operand)
    (ho : o.op = .call { callee := .builtin .append, args := #[s, x], argTypes := #[22, 22] })
    {wr : World} {A : Option Addr} {q c B : Nat} {Ls : List Bs} {L : Bs} {t : ByteArray} (hs : a.eval s = .slice A q c) (hS : wr.ownsRow B 9 1 (.slice A q c) q (scells Ls)) (ht : t = text L) (hx : a.eval x = .slice (some ⟨wr.heap.size, 0, none⟩) 1 1) (hlen : q + 1 ≤ 100000) (hB : B ≤ wr.heap.size)
    (h : ∀ A' c' w1, Hid (w1.ownsRow B 9 1 (.slice A' (q + 1) c') (q + 1) (scells (Ls ++ [L]))) → Hid (Below B wr w1) → wpList Tryd.prog ops Q rest (a.put o.dst (.slice A' (q + 1) c')) w1) :
    wpList Tryd.prog ops Q (o :: rest) a (wr.alloc (.cells #[.string t] 9)) := by
  obtain ⟨i0, hi0, hz0, hz1, hz2⟩ := info_parts Tryd.infoStr
  have hb0 : Below B wr (wr.alloc (.cells #[.string t] 9)) := (Below.refl _ _).alloc hB _
  refine wpList_append_own _ hgd s x 22 ho B 9 i0 _ 1 16 Tryd.underlying22 hi0 hz0 hz1 hz2 rfl (by omega) _ q (scells Ls) hs (hS.alloc _) ⟨wr.heap.size, 0, none⟩ 1 1 [Value.string t] hx rfl (cell_one_new _ _ _) (by intro u hu; rw [List.mem_singleton] at hu; subst hu; rfl) (by simp only [maxLen]; omega) (by omega) (by simp; omega) ?_
  intro v' w1 ho1 hg1 _
  obtain ⟨A', c', rfl⟩ := sown_form ho1
  refine h A' c' w1 ?_ (hb0.grown hg1 (by simp; omega) fun k hk => (hS.lt k hk).1)
  show w1.ownsRow _ _ _ _ _ _
  rw [scells_append]
  subst ht
  exact ho1
theorem sown_far {w : World} {base n g i : Nat} {v u : Value} {xs : List Value} (h : w.ownsRow base 9 1 v n xs) (hg : g < base) : (w.setCell ⟨g, i, none⟩ u).ownsRow base 9 1 v n xs := by
  refine ⟨h.1, ?_⟩
  rcases h.2 with h0 | ⟨k, cap, cur, h1, h2, h3, h4⟩
  · exact .inl h0
  · exact .inr ⟨k, cap, cur, h1, h2, (Below.heap_setCell w ⟨g, i, none⟩ u k (fun e => by have e2 : k = g := e; omega)).trans h3, h4⟩
theorem stepByte_le (st : St) : (stepByte st).2 ≤ 255 := by
  rcases st with _ | l
  · exact Nat.zero_le _
  · rcases l with _ | ⟨x, l⟩
    · exact Nat.zero_le _
    · have := x.toNat_lt
      show x.toNat ≤ 255
      omega
structure UgS (w W : World) (A : Option Addr) (M : List UInt8) (c C P : Nat) (st : St) (a : Int) (X : Option Addr) (q cc : Nat) (l : List Bs) : Prop where
  cv : ∃ (Y : Option Addr) (n m k : Nat) (b : Bool), RefV A M c (.agg #[.slice Y n m, .int .i64 (k : Int), .bool b]) st ∧ Blk W C 57 #[.slice Y n m, .int .i64 (k : Int), .bool b]
  var : Blk W P 26 (updC a X q cc 0 { data := #[] } { data := #[] } 0 { data := #[] })
  row : W.ownsRow (P + 1) 9 1 (.slice X q cc) q (scells l)
  res : Blk W w.heap.size 26 (updC 0 none 0 0 0 { data := #[] } { data := #[] } 0 { data := #[] })
  below : Below w.heap.size w W
  cw : w.heap.size < C
  cp : C < P
section
variable {w W W' : World} {A X : Option Addr} {M : List UInt8} {c C P q cc : Nat} {st st' : St} {a : Int} {l : List Bs}
theorem UgS.pl (h : UgS w W A M c C P st a X q cc l) : P + 1 ≤ W.heap.size := h.var.lt
theorem UgS.up (h : UgS w W A M c C P st a X q cc l) (hb : Below W.heap.size W W') : UgS w W' A M c C P st a X q cc l := by
  obtain ⟨Y, n, m, k, b, h1, h2⟩ := h.cv
  exact ⟨⟨Y, n, m, k, b, h1, h2.below hb h2.lt⟩, h.var.below hb h.var.lt, sown_kept h.row hb, h.res.below hb h.res.lt, h.below.trans (hb.mono h.below.size), h.cw, h.cp⟩
theorem UgS.setc (h : UgS w W A M c C P st a X q cc l) {Y : Option Addr} {n m k : Nat} {b : Bool} (hv : RefV A M c (.agg #[.slice Y n m, .int .i64 (k : Int), .bool b]) st') :
    UgS w (((W.setCell ⟨C, 0, none⟩ (.slice Y n m)).setCell ⟨C, 1, none⟩ (.int .i64 (k : Int))).setCell ⟨C, 2, none⟩ (.bool b)) A M c C P st' a X q cc l := by
  obtain ⟨Y', n', m', k', b', h1, h2⟩ := h.cv
  have hr : w.heap.size ≠ C := by have := h.cw; omega
  have hp : P ≠ C := by have := h.cp; omega
  have hq : C < P + 1 := by have := h.cp; omega
  refine ⟨⟨Y, n, m, k, b, hv, ?_⟩, Blk.far (Blk.far (Blk.far h.var hp _) hp _) hp _, sown_far (sown_far (sown_far h.row hq) hq) hq, Blk.far (Blk.far (Blk.far h.res hr _) hr _) hr _, below_at (below_at (below_at h.below h.cw 0 _) h.cw 1 _) h.cw 2 _, h.cw, h.cp⟩
  have K := ((h2.set_ 0 (.slice Y n m)).set_ 1 (.int .i64 (k : Int))).set_ 2 (.bool b)
  simpa using K
theorem UgS.grow (h : UgS w W A M c C P st a X q cc l) {X' : Option Addr} {q' cc' : Nat} {l' : List Bs} (hr : W'.ownsRow (P + 1) 9 1 (.slice X' q' cc') q' (scells l')) (hb : Below (P + 1) W W') :
    UgS w (W'.setCell ⟨P, 1, none⟩ (.slice X' q' cc')) A M c C P st a X' q' cc' l' := by
  obtain ⟨Y, n, m, k, b, h1, h2⟩ := h.cv
  have h3 := h.cp
  have h4 := h.cw
  have hC : C ≠ P := by omega
  have hR : w.heap.size ≠ P := by omega
  have hB : Below w.heap.size w W' := h.below.trans (hb.mono (by omega))
  refine ⟨⟨Y, n, m, k, b, h1, (h2.below hb (by omega)).far hC _⟩, ?_, sown_far hr (Nat.lt_succ_self P), (h.res.below hb (by omega)).far hR _, below_at hB (by omega) 1 _, h.cw, h.cp⟩
  have K := (h.var.below hb (Nat.lt_succ_self P)).set_ 1 (.slice X' q' cc')
  simpa [updC] using K
def UgC (C P R : Nat) (W : World) (x0 x1 x2 : Value) (a : Int) (X : Option Addr) (q cc : Nat) : Prop :=
  (UpdC W P a X q cc 0 { data := #[] } { data := #[] } 0 { data := #[] } ∧ UpdC W R 0 none 0 0 0 { data := #[] } { data := #[] } 0 { data := #[] }) ∧ C < W.heap.size ∧ W.cell? ⟨C, 0, none⟩ = some x0 ∧ W.cell? ⟨C, 1, none⟩ = some x1 ∧ W.cell? ⟨C, 2, none⟩ = some x2 ∧ (∀ i, W.frozen? ⟨C, i, none⟩ = false)
theorem UgS.cells (h : UgS w W A M c C P st a X q cc l) : ∃ (Y : Option Addr) (n m k : Nat) (b : Bool), RefV A M c (.agg #[.slice Y n m, .int .i64 (k : Int), .bool b]) st ∧ UgC C P w.heap.size W (.slice Y n m) (.int .i64 (k : Int)) (.bool b) a X q cc := by
  obtain ⟨Y, n, m, k, b, h1, h2⟩ := h.cv
  exact ⟨Y, n, m, k, b, h1, ⟨updC_of h.var, updC_of h.res⟩, h2.lt, h2.cell 0, h2.cell 1, h2.cell 2, h2.frozen⟩
theorem UpdC.up {b : Nat} {a : Int} {A : Option Addr} {n c : Nat} {k : Int} {t1 t2 : ByteArray} {z : Int} {t3 : ByteArray} (h : UpdC W b a A n c k t1 t2 z t3) (hb : Below W.heap.size W W') : UpdC W' b a A n c k t1 t2 z t3 := by
  obtain ⟨d, c0, c1, c2, c3, c4, c5, c6, cf⟩ := h
  have u : ∀ {g i : Nat} {v : Value}, g < W.heap.size → W.cell? ⟨g, i, none⟩ = some v → W'.cell? ⟨g, i, none⟩ = some v := fun {g i v} hg hc => (hb.cell (p := ⟨g, i, none⟩) hg).trans hc
  exact ⟨Nat.lt_of_lt_of_le d hb.size, u d c0, u d c1, u d c2, u d c3, u d c4, u d c5, u d c6, fun i => (hb.frozen (p := ⟨b, i, none⟩) d).trans (cf i)⟩
theorem UgC.up {R : Nat} {x0 x1 x2 : Value} (h : UgC C P R W x0 x1 x2 a X q cc) (hb : Below W.heap.size W W') : UgC C P R W' x0 x1 x2 a X q cc := by
  obtain ⟨⟨a1, a2⟩, d0, d1, d2, d3, d4⟩ := h
  have u : ∀ {g i : Nat} {v : Value}, g < W.heap.size → W.cell? ⟨g, i, none⟩ = some v → W'.cell? ⟨g, i, none⟩ = some v := fun {g i v} hg hc => (hb.cell (p := ⟨g, i, none⟩) hg).trans hc
  exact ⟨⟨a1.up hb, a2.up hb⟩, Nat.lt_of_lt_of_le d0 hb.size, u d0 d1, u d0 d2, u d0 d3, fun i => (hb.frozen (p := ⟨C, i, none⟩) d0).trans (d4 i)⟩
end
def errGU (b : List UInt8) (r : Option Upd) : Int := if 384 < b.length then 3 else if r.isSome = true then 0 else 5
def GivesGetU (b : List UInt8) (w : World) (e : Ending) (w' : World) : Prop := ∃ r A c, GetsU b r ∧ e = .returned (.tuple #[updV (r.getD Upd.zero) A c, .int .i64 (errGU b r)]) ∧ Hid (SS w' w'.heap.size A (r.getD Upd.zero).preds) ∧ (r.getD Upd.zero).preds.length ≤ c ∧ c ≤ 9223372036854775807 ∧ Below w.heap.size w w'
theorem getU_none {b : List UInt8} {w w' : World} {e : Ending} {y : Int} (h : GetsU b none) (hy : y = errGU b none) (he : e = .returned (.tuple #[.agg #[.int .i64 0, .slice none 0 0, .int .i64 0, .string { data := #[] }, .string { data := #[] }, .int .i64 0, .string { data := #[] }], .int .i64 y])) (hb : Below w.heap.size w w') : GivesGetU b w e w' := by
  subst hy
  exact ⟨none, none, 0, h, he, SS.nil _ _ _, Nat.le_refl _, Nat.zero_le _, hb⟩
theorem upd_end {w W E : World} {R : Nat} {a0 a1 a2 a3 a4 a5 a6 v0 v1 v2 v3 v4 v5 v6 : Value} (hb : Below w.heap.size w W) (K : Blk W R 26 #[a0, a1, a2, a3, a4, a5, a6]) (hR : w.heap.size ≤ R) (hE : E = ((((((W.setCell ⟨R, 0, none⟩ v0).setCell ⟨R, 1, none⟩ v1).setCell ⟨R, 2, none⟩ v2).setCell ⟨R, 3, none⟩ v3).setCell ⟨R, 4, none⟩ v4).setCell ⟨R, 5, none⟩ v5).setCell ⟨R, 6, none⟩ v6) :
    (E.cell? ⟨R, 0, none⟩ = some v0 ∧ E.cell? ⟨R, 1, none⟩ = some v1 ∧ E.cell? ⟨R, 2, none⟩ = some v2 ∧ E.cell? ⟨R, 3, none⟩ = some v3 ∧ E.cell? ⟨R, 4, none⟩ = some v4 ∧ E.cell? ⟨R, 5, none⟩ = some v5 ∧ E.cell? ⟨R, 6, none⟩ = some v6) ∧ Below w.heap.size w E := by
  have K' := ((((((K.set_ 0 v0).set_ 1 v1).set_ 2 v2).set_ 3 v3).set_ 4 v4).set_ 5 v5).set_ 6 v6
  simp only [List.setIfInBounds_toArray, List.set_cons_zero, List.set_cons_succ] at K'
  have s : ∀ (V : World) (i : Nat) (u : Value), Below w.heap.size w V → Below w.heap.size w (V.setCell ⟨R, i, none⟩ u) := fun V i u hv =>
    hv.trans ⟨rfl, rfl, rfl, by simp [World.setCell], fun k hk => Below.heap_setCell V ⟨R, i, none⟩ u k (fun e => by have e2 : k = R := e; omega)⟩
  have hb' := s _ 6 v6 (s _ 5 v5 (s _ 4 v4 (s _ 3 v3 (s _ 2 v2 (s _ 1 v1 (s _ 0 v0 hb))))))
  rw [← hE] at K' hb'
  exact ⟨⟨K'.cell 0, K'.cell 1, K'.cell 2, K'.cell 3, K'.cell 4, K'.cell 5, K'.cell 6⟩, hb'⟩
theorem ss_end {W E : World} {R : Nat} {v0 v1 v2 v3 v4 v5 v6 : Value} {base q cc : Nat} {X : Option Addr} {l : List Bs} (hq : q = l.length) (h : W.ownsRow base 9 1 (.slice X q cc) q (scells l)) (hR : R < base) (hE : E = ((((((W.setCell ⟨R, 0, none⟩ v0).setCell ⟨R, 1, none⟩ v1).setCell ⟨R, 2, none⟩ v2).setCell ⟨R, 3, none⟩ v3).setCell ⟨R, 4, none⟩ v4).setCell ⟨R, 5, none⟩ v5).setCell ⟨R, 6, none⟩ v6) : SS E E.heap.size X l := by
  have h2 := sown_far (i := 6) (u := v6) (sown_far (i := 5) (u := v5) (sown_far (i := 4) (u := v4) (sown_far (i := 3) (u := v3) (sown_far (i := 2) (u := v2) (sown_far (i := 1) (u := v1) (sown_far (i := 0) (u := v0) h hR) hR) hR) hR) hR) hR) hR
  rw [← hE] at h2
  subst hq
  exact own_ss h2
structure UfS (w W : World) (P : Nat) (a : Int) (X : Option Addr) (q cc : Nat) (l : List Bs) (k : Int) (t1 t2 : ByteArray) (z : Int) (t3 : ByteArray) : Prop where
  var : Blk W P 26 (updC a X q cc k t1 t2 z t3)
  row : W.ownsRow (P + 1) 9 1 (.slice X q cc) q (scells l)
  res : Blk W w.heap.size 26 (updC 0 none 0 0 0 { data := #[] } { data := #[] } 0 { data := #[] })
  below : Below w.heap.size w W
  pw : w.heap.size < P
theorem UfS.up {w W W' : World} {P : Nat} {a : Int} {X : Option Addr} {q cc : Nat} {l : List Bs} {k : Int} {t1 t2 : ByteArray} {z : Int} {t3 : ByteArray} (h : UfS w W P a X q cc l k t1 t2 z t3) (hb : Below W.heap.size W W') : UfS w W' P a X q cc l k t1 t2 z t3 :=
  ⟨h.var.below hb h.var.lt, sown_kept h.row hb, h.res.below hb h.res.lt, h.below.trans (hb.mono h.below.size), h.pw⟩
theorem UfS.cells {w W : World} {P : Nat} {a : Int} {X : Option Addr} {q cc : Nat} {l : List Bs} {k : Int} {t1 t2 : ByteArray} {z : Int} {t3 : ByteArray} (h : UfS w W P a X q cc l k t1 t2 z t3) :
    UpdC W P a X q cc k t1 t2 z t3 ∧ UpdC W w.heap.size 0 none 0 0 0 { data := #[] } { data := #[] } 0 { data := #[] } := ⟨updC_of h.var, updC_of h.res⟩
theorem UgS.fill {w W : World} {A X : Option Addr} {M : List UInt8} {c C P q cc : Nat} {st : St} {a : Int} {l : List Bs} (h : UgS w W A M c C P st a X q cc l) (k : Int) (t1 t2 : ByteArray) (z : Int) (t3 : ByteArray) :
    UfS w (((((W.setCell ⟨P, 2, none⟩ (.int .i64 k)).setCell ⟨P, 3, none⟩ (.string t1)).setCell ⟨P, 4, none⟩ (.string t2)).setCell ⟨P, 5, none⟩ (.int .i64 z)).setCell ⟨P, 6, none⟩ (.string t3)) P a X q cc l k t1 t2 z t3 := by
  have h3 := h.cp
  have h4 := h.cw
  have hp : w.heap.size < P := by omega
  have hR : w.heap.size ≠ P := by omega
  have hq := Nat.lt_succ_self P
  refine ⟨?_, sown_far (sown_far (sown_far (sown_far (sown_far h.row hq) hq) hq) hq) hq, Blk.far (Blk.far (Blk.far (Blk.far (Blk.far h.res hR _) hR _) hR _) hR _) hR _, below_at (below_at (below_at (below_at (below_at h.below hp 2 _) hp 3 _) hp 4 _) hp 5 _) hp 6 _, hp⟩
  have K := ((((h.var.set_ 2 (.int .i64 k)).set_ 3 (.string t1)).set_ 4 (.string t2)).set_ 5 (.int .i64 z)).set_ 6 (.string t3)
  simp only [updC, List.setIfInBounds_toArray, List.set_cons_zero, List.set_cons_succ] at K
  exact K
theorem mayB_name {o : Opn} (h : o.May) : o.name.length ≤ 48 := by
  obtain ⟨k, nm, tx, z, a⟩ := o
  exact (may_parts h).1
theorem getE_upd {b L : List UInt8} {a : Nat} {l : List Bs} (hD : readU b = (some L, a, l)) {r : Option (Opn × Nat)} (hr : GetsO L r) :
    ∃ (o : Opn) (s e : Int), getE r = .returned (.tuple #[opV o, .int .i64 s, .int .i64 e]) ∧ o.name.length ≤ 1000000 ∧ (e ≠ 0 → GetsU b none) ∧ (e = 0 → (Upd.check ⟨(a : Int), l, o⟩ ≠ 0 ∨ Upd.bytes ⟨(a : Int), l, o⟩ ≠ b) → GetsU b none) := by
  rcases r with _ | ⟨o, k⟩
  · exact ⟨Opn.zero, 0, 5, rfl, by show 0 ≤ 1000000; omega, fun _ => getsU_op hD hr, fun h => absurd h (by decide)⟩
  · refine ⟨o, k, 0, rfl, Nat.le_trans (mayB_name hr.1) (by omega), fun h => absurd rfl h, fun _ h => getsU_no hD hr h⟩
theorem Tryd.updZero (w : World) : Sem.run Tryd.prog (Instr.build 26 #[]) w = .ok (.agg #[.int .i64 0, .slice none 0 0, .int .i64 0, .string { data := #[] }, .string { data := #[] }, .int .i64 0, .string { data := #[] }]) w := by kernel_rfl
theorem Tryd.updAuth (a : Int) (w : World) : Sem.run Tryd.prog (Instr.build 26 #[(0, .int .i64 a)]) w = .ok (.agg #[.int .i64 a, .slice none 0 0, .int .i64 0, .string { data := #[] }, .string { data := #[] }, .int .i64 0, .string { data := #[] }]) w := by kernel_rfl
end
section
open Go.RowKit
theorem rget14_any (b : List UInt8) (n : Nat) (A : Option Addr) (c : Nat) (w : World) (hn : n = b.length) (hr : RB w w.heap.size A b) (hc : n ≤ c) (hcm : c ≤ 9223372036854775807) (hl : n ≤ 1000) :
    Calls Tryd.prog 37 #[.slice A n c] w (GivesGet b w) := by
  obtain ⟨s1, k, h1⟩ : ∃ s1 k, stepByte (some b) = (s1, k) := ⟨_, _, rfl⟩
  obtain ⟨fn, hfn⟩ : ∃ f, f = hasName (k : Int) := ⟨_, rfl⟩
  obtain ⟨ft, hft⟩ : ∃ f, f = hasText (k : Int) := ⟨_, rfl⟩
  obtain ⟨fz, hfz⟩ : ∃ f, f = hasN (k : Int) := ⟨_, rfl⟩
  obtain ⟨fa, hfa⟩ : ∃ f, f = hasAt (k : Int) := ⟨_, rfl⟩
  obtain ⟨fo, hfo⟩ : ∃ f, f = isKind (k : Int) := ⟨_, rfl⟩
  obtain ⟨s2, nm, h2⟩ : ∃ s l, rdText fn s1 = (s, l) := ⟨_, _, rfl⟩
  obtain ⟨s3, tx, h3⟩ : ∃ s l, rdText ft s2 = (s, l) := ⟨_, _, rfl⟩
  obtain ⟨s4, z, h4⟩ : ∃ s l, rdNum fz s3 = (s, l) := ⟨_, _, rfl⟩
  obtain ⟨s5, is, h5⟩ : ∃ s l, (if k = 5 then stepByte s4 else (s4, 1)) = (s, l) := ⟨_, _, rfl⟩
  obtain ⟨s6, a, h6⟩ : ∃ s l, (if fa = true ∧ is = 1 then stepTake 32 s5 else (s5, [])) = (s, l) := ⟨_, _, rfl⟩
  have hRead : readO (some b) = (s6, ⟨(k : Int), nm, tx, z, a⟩) := by
    have e6 : rdAt (k : Int) s4 = (s6, a) := by
      unfold rdAt rdAt5
      by_cases c5 : k = 5
      · subst c5
        rw [if_pos rfl] at h5
        rw [if_pos (show ((5 : Nat) : Int) = 5 from rfl), h5]
        simp only []
        rw [← h6, hfa]
        by_cases ci : is = 1
        · rw [if_pos ci, if_pos ⟨rfl, ci⟩]
        · rw [if_neg ci, if_neg (fun h => ci h.2)]
      · rw [if_neg c5] at h5
        simp only [Prod.mk.injEq] at h5
        obtain ⟨rfl, rfl⟩ := h5
        rw [if_neg (show ¬ (k : Int) = 5 by omega)]
        by_cases c6 : k = 6
        · subst c6
          rw [if_pos (show ((6 : Nat) : Int) = 6 from rfl), ← h6, if_pos ⟨by rw [hfa]; rfl, rfl⟩]
        · rw [if_neg (show ¬ (k : Int) = 6 by omega), ← h6, if_neg]
          rintro ⟨h, _⟩
          rw [hfa] at h
          simp only [hasAt, Bool.and_eq_true, decide_eq_true_eq] at h
          omega
    unfold readO
    rw [h1]
    simp only []
    rw [← hfn, h2]
    simp only []
    rw [← hft, h3]
    simp only []
    rw [← hfz, h4]
    simp only []
    rw [e6]
  obtain ⟨lo1, lo2, lo3⟩ := readO_len (some b)
  rw [hRead] at lo1 lo2 lo3
  simp only at lo1 lo2 lo3
  have hcn : b.length ≤ c := by omega
  have hbl : b.length ≤ 1048576 := by omega
  have HD := Lib.hid hRead
  have HNn := Lib.hid hn
  have HA := Lib.hid hr
  have hv0 : Hid (RefV A b c (.agg #[.slice A n c, .int .i64 0, .bool false]) (some b)) := ⟨0, by rw [hn]; rfl, Nat.zero_le _, rfl⟩
  have HFr : Hid (∀ W, Calls Tryd.prog 35 #[.slice A n c] W fun e w' => e = .returned (.agg #[.slice A n c, .int .i64 0, .bool false]) ∧ Below W.heap.size W w') := fun W => refFrom_any A n c W
  have HBy : Hid (∀ (st st' : St) (x : Nat) W v, RefV A b c v st → Below w.heap.size w W → stepByte st = (st', x) → Calls Tryd.prog 34 #[v] W (TkN A b c x st' W)) := fun st st' x W v hv hb he => (refByte_any A b c w.heap.size v st W hv (hr.below hb) hb.size hcn hbl).mono fun e w' hh => tkN_of hh he
  have HTx : Hid (∀ (st st' : St) (l : List UInt8) (m : Nat) W v, RefV A b c v st → Below w.heap.size w W → stepText st = (st', l) → m = l.length → Calls Tryd.prog 63 #[v] W (TkB A b c w.heap.size m l st' W)) := fun st st' l m W v hv hb he hm => (refTakeText_any A b c w.heap.size v st W hv (hr.below hb) hb.size hcn hbl).mono fun e w' hh => tkB_of hh he hm
  have HTk : Hid (∀ (q : Int) (st st' : St) (l : List UInt8) (m : Nat) W v, RefV A b c v st → Below w.heap.size w W → stepTake q st = (st', l) → m = l.length → Calls Tryd.prog 36 #[v, .int .i64 q] W (TkB A b c w.heap.size m l st' W)) := fun q st st' l m W v hv hb he hm => (refTake_any A b c w.heap.size v q st W hv (hr.below hb) hb.size hcn hbl).mono fun e w' hh => tkB_of hh he hm
  have HLf : Hid (∀ W v, RefV A b c v s6 → Calls Tryd.prog 38 #[v] W fun e w' => e = .returned (.int .i64 (leftN s6 : Int)) ∧ Below W.heap.size W w') := fun W v hv => refLeft_any A b c v s6 W hv hbl
  have HH : Hid (∀ W, Calls Tryd.prog 49 #[.int .i64 (k : Int)] W fun e w' => e = .returned (.tuple #[.bool fn, .bool ft, .bool fz, .bool fa, .bool fo]) ∧ Below W.heap.size W w') := fun W => by
    rw [hfn, hft, hfz, hfa, hfo]
    exact refHas_any (k : Int) W
  have HP : Hid (∀ W, Calls Tryd.prog 21 #[opV ⟨(k : Int), nm, tx, z, a⟩] W (PutsO ⟨(k : Int), nm, tx, z, a⟩ W)) := fun W => rPut_any _ W (by show nm.length ≤ 1000000; omega)
  have G1 := Lib.hid h1
  have G2 := Lib.hid h2
  have G3 := Lib.hid h3
  have G4 := Lib.hid h4
  have G5 := Lib.hid h5
  have G6 := Lib.hid h6
  obtain ⟨tt1, htt1⟩ : ∃ t, t = text nm := ⟨_, rfl⟩
  obtain ⟨tt2, htt2⟩ : ∃ t, t = text tx := ⟨_, rfl⟩
  obtain ⟨tt3, htt3⟩ : ∃ t, t = text a := ⟨_, rfl⟩
  obtain ⟨n1, hn1⟩ : ∃ m, m = nm.length := ⟨_, rfl⟩
  obtain ⟨n2, hn2⟩ : ∃ m, m = tx.length := ⟨_, rfl⟩
  obtain ⟨n3, hn3⟩ : ∃ m, m = a.length := ⟨_, rfl⟩
  have M1 := Lib.hid htt1
  have M2 := Lib.hid htt2
  have M3 := Lib.hid htt3
  have N1 := Lib.hid hn1
  have N2 := Lib.hid hn2
  have N3 := Lib.hid hn3
  have HR := Lib.hid (Blk.new w 24 (opC 0 { data := #[] } { data := #[] } 0 { data := #[] }))
  have HB0 := Lib.hid (show Below w.heap.size w (w.alloc (.cells (opC 0 { data := #[] } { data := #[] } 0 { data := #[] }) 24)) from (Below.refl _ _).alloc (Nat.le_refl _) _)
  have HFA := Lib.hid hfa
  clear h1 h2 h3 h4 h5 h6 htt1 htt2 htt3 hn1 hn2 hn3 hfn hft hfz hfa hfo hRead lo1 lo2 lo3 hn hr
  have nb := fun w' => Tryd.opZero w'
  have a23 := fun w' => Tryd.opAgg w'
  have s23 := fun w' => Tryd.opSize w'
  go_enter Tryd.func37, Tryd.ntmps37
  go_upto_region 3 with (first
    | (go_at_call 34; (with_reducible refine (HBy.out (some b) s1 k _ _ hv0.out (C1.out.alloc C1.out.size _) G1.out).mono ?_); rintro e w2 ⟨Y, ny, my, qy, bo, rfl, hv2, hb2⟩; have K2 := Lib.hid ((Blk.new w1 57 #[.slice A n c, .int .i64 0, .bool false]).below hb2.out (by simp)); have x0 := K2.out.cell 0; have x1 := K2.out.cell 1; have x2 := K2.out.cell 2; have xf := K2.out.frozen; have xl := K2.out.lt)
    | (go_at_call 35; (with_reducible refine (HFr.out _).mono ?_); rintro e w1 ⟨rfl, hb1⟩; have C1 := Lib.hid (HB0.out.trans (hb1.mono HB0.out.size)); have R1 := Lib.hid (HR.out.below hb1 HR.out.lt); have z1 : w.heap.size < w1.heap.size := Nat.lt_of_lt_of_le (by simp) hb1.size))
  have C2 : Hid (Below w.heap.size w w2) := (C1.out.alloc C1.out.size _).trans (hb2.out.mono (by simp; omega))
  have R2 : Hid (Blk w2 w.heap.size 24 (opC 0 { data := #[] } { data := #[] } 0 { data := #[] })) := (R1.out.alloc _).below hb2.out (by simp; omega)
  obtain ⟨C, hC⟩ : ∃ x, x = w1.heap.size := ⟨_, rfl⟩
  rw [← hC] at x0 x1 x2 xf xl K2 z1 ⊢
  have hrC : w.heap.size ≠ C := by omega
  have K3 : Hid (Blk (((w2.setCell ⟨C, 0, none⟩ (.slice Y ny my)).setCell ⟨C, 1, none⟩ (.int .i64 (qy : Int))).setCell ⟨C, 2, none⟩ (.bool bo)) C 57 #[.slice Y ny my, .int .i64 (qy : Int), .bool bo]) := by
    have K := ((K2.out.set_ 0 (.slice Y ny my)).set_ 1 (.int .i64 (qy : Int))).set_ 2 (.bool bo)
    exact K
  have C3 := Lib.hid (below_at (below_at (below_at C2.out z1 0 (.slice Y ny my)) z1 1 (.int .i64 (qy : Int))) z1 2 (.bool bo))
  have R3 := Lib.hid (Blk.far (p := ⟨C, 2, none⟩) (Blk.far (p := ⟨C, 1, none⟩) (Blk.far (p := ⟨C, 0, none⟩) R2.out hrC (.slice Y ny my)) hrC (.int .i64 (qy : Int))) hrC (.bool bo))
  obtain ⟨w3, hw3⟩ : ∃ x, x = ((w2.setCell ⟨C, 0, none⟩ (.slice Y ny my)).setCell ⟨C, 1, none⟩ (.int .i64 (qy : Int))).setCell ⟨C, 2, none⟩ (.bool bo) := ⟨_, rfl⟩
  rw [← hw3] at K3 C3 R3 ⊢
  clear hw3 hC x0 x1 x2 xf xl K2 C2 R2 C1 R1 hb2 hb1
  go_upto_region 4 with (fail)
  have hS : Hid (RefS w (w3.alloc (.cells #[.int .i64 (k : Int), .string { data := #[] }, .string { data := #[] }, .int .i64 0, .string { data := #[] }] 24)) A b c C w3.heap.size s1 (k : Int) { data := #[] } { data := #[] } 0 { data := #[] }) :=
    ⟨⟨Y, ny, my, qy, bo, hv2.out, K3.out.alloc _⟩, Blk.new _ _ _, R3.out.alloc _, C3.out.alloc C3.out.size _, z1, R3.out.lt, Nat.ne_of_lt K3.out.lt⟩
  obtain ⟨P, hP⟩ : ∃ x, x = w3.heap.size := ⟨_, rfl⟩
  obtain ⟨wp, hwp⟩ : ∃ x, x = w3.alloc (.cells #[.int .i64 (k : Int), .string { data := #[] }, .string { data := #[] }, .int .i64 0, .string { data := #[] }] 24) := ⟨_, rfl⟩
  rw [← hwp, ← hP] at hS ⊢
  clear hwp hP K3 C3 R3 hv2 HR HB0 HFr hv0
  go_upto_if 46 with (first
    | (go_at_call 49; (with_reducible refine (HH.out _).mono ?_); rintro e w4 ⟨rfl, b4⟩; have hS4 := Lib.hid (hS.out.up b4)))
  clear hS
  have hS := hS4
  clear hS4
  go_cut [13, 14] from 29 to 146 (fun _ _ wx => Hid (RefS w wx A b c C P s2 (k : Int) tt1 { data := #[] } 0 { data := #[] }))
  case first =>
    have g9 := G2.out
    unfold rdText at g9
    cases fn
    · rw [if_neg (by simp)] at g9
      simp only [Prod.mk.injEq] at g9
      obtain ⟨g9a, g9b⟩ := g9
      have G9a := Lib.hid g9a
      have e9 : Hid (tt1 = { data := #[] }) := by show _ = _; rw [M1.out, ← g9b]; rfl
      clear g9a g9b
      go_wp2_with (fail)
      go_meet
      rw [e9.out, ← G9a.out]
      exact hS.out
    · rw [if_pos rfl] at g9
      have G9 := Lib.hid g9
      clear g9
      obtain ⟨X0, n0, m0, q0, b0, hv, hC⟩ := hS.out.cells
      obtain ⟨⟨pl, rl, p0, p1, p2, p3, p4, pf, r0, r1, r2, r3, r4, rf⟩, cl, x0, x1, x2, xf⟩ := id hC
      go_upto_region 8 with (first
        | (go_at_call 63; (with_reducible refine (HTx.out s1 s2 nm n1 _ _ hv hS.out.below G9.out N1.out).mono ?_); rintro e w5 ⟨Y, ny, my, qy, bo, A5, d5, rfl, hv5, hr5, hb5⟩; have hS5 := Lib.hid (hS.out.up hb5.out); obtain ⟨⟨pl9, rl9, p09, p19, p29, p39, p49, pf9, r09, r19, r29, r39, r49, rf9⟩, cl9, x09, x19, x29, xf9⟩ := hC.up hb5.out))
      have hS6 := Lib.hid ((hS5.out.setc hv5.out).up ((Below.refl _ _).alloc (Nat.le_refl _) (.cells #[.slice Y ny my, .int .i64 (qy : Int), .bool bo] 57)))
      have hr6 := Lib.hid (RB.below hr5.out ((below3 (Below.refl w.heap.size w5) (Nat.le_of_lt hS5.out.cw) (.slice Y ny my) (.int .i64 (qy : Int)) (.bool bo)).alloc (hS5.out.setc hv5.out).below.size (.cells #[.slice Y ny my, .int .i64 (qy : Int), .bool bo] 57)))
      obtain ⟨w6, hw6⟩ : ∃ x, x = (((w5.setCell ⟨C, 0, none⟩ (.slice Y ny my)).setCell ⟨C, 1, none⟩ (.int .i64 (qy : Int))).setCell ⟨C, 2, none⟩ (.bool bo)).alloc (.cells #[.slice Y ny my, .int .i64 (qy : Int), .bool bo] 57) := ⟨_, rfl⟩
      rw [← hw6] at hS6 hr6 ⊢
      clear pl rl p0 p1 p2 p3 p4 pf r0 r1 r2 r3 r4 rf cl x0 x1 x2 xf pl9 rl9 p09 p19 p29 p39 p49 pf9 r09 r19 r29 r39 r49 rf9 cl9 x09 x19 x29 xf9 hC hv hS5 hS hw6 hv5 hb5 hr5
      have est := aw_str (RB.more hr6.out hS6.out.below.size) n1 d5 N1.out
      rw [show ({ data := nm.toArray } : ByteArray) = tt1 from M1.out.symm] at est
      obtain ⟨X0, n0, m0, q0, b0, hv, hC⟩ := hS6.out.cells
      obtain ⟨⟨pl, rl, p0, p1, p2, p3, p4, pf, r0, r1, r2, r3, r4, rf⟩, cl, x0, x1, x2, xf⟩ := id hC
      go_wp2_with (fail)
      go_meet
      exact hS6.out.set1 tt1
  case rest =>
    clear hS
    have hS := hcut
    clear hcut
    go_upto_if 56 with (fail)
    go_cut [15, 16] from 29 to 146 (fun _ _ wx => Hid (RefS w wx A b c C P s3 (k : Int) tt1 tt2 0 { data := #[] }))
    case first =>
      have g9 := G3.out
      unfold rdText at g9
      cases ft
      · rw [if_neg (by simp)] at g9
        simp only [Prod.mk.injEq] at g9
        obtain ⟨g9a, g9b⟩ := g9
        have G9a := Lib.hid g9a
        have e9 : Hid (tt2 = { data := #[] }) := by show _ = _; rw [M2.out, ← g9b]; rfl
        clear g9a g9b
        go_wp2_with (fail)
        go_meet
        rw [e9.out, ← G9a.out]
        exact hS.out
      · rw [if_pos rfl] at g9
        have G9 := Lib.hid g9
        clear g9
        obtain ⟨X0, n0, m0, q0, b0, hv, hC⟩ := hS.out.cells
        obtain ⟨⟨pl, rl, p0, p1, p2, p3, p4, pf, r0, r1, r2, r3, r4, rf⟩, cl, x0, x1, x2, xf⟩ := id hC
        go_upto_region 12 with (first
          | (go_at_call 63; (with_reducible refine (HTx.out s2 s3 tx n2 _ _ hv hS.out.below G9.out N2.out).mono ?_); rintro e w5 ⟨Y, ny, my, qy, bo, A5, d5, rfl, hv5, hr5, hb5⟩; have hS5 := Lib.hid (hS.out.up hb5.out); obtain ⟨⟨pl9, rl9, p09, p19, p29, p39, p49, pf9, r09, r19, r29, r39, r49, rf9⟩, cl9, x09, x19, x29, xf9⟩ := hC.up hb5.out))
        have hS6 := Lib.hid ((hS5.out.setc hv5.out).up ((Below.refl _ _).alloc (Nat.le_refl _) (.cells #[.slice Y ny my, .int .i64 (qy : Int), .bool bo] 57)))
        have hr6 := Lib.hid (RB.below hr5.out ((below3 (Below.refl w.heap.size w5) (Nat.le_of_lt hS5.out.cw) (.slice Y ny my) (.int .i64 (qy : Int)) (.bool bo)).alloc (hS5.out.setc hv5.out).below.size (.cells #[.slice Y ny my, .int .i64 (qy : Int), .bool bo] 57)))
        obtain ⟨w6, hw6⟩ : ∃ x, x = (((w5.setCell ⟨C, 0, none⟩ (.slice Y ny my)).setCell ⟨C, 1, none⟩ (.int .i64 (qy : Int))).setCell ⟨C, 2, none⟩ (.bool bo)).alloc (.cells #[.slice Y ny my, .int .i64 (qy : Int), .bool bo] 57) := ⟨_, rfl⟩
        rw [← hw6] at hS6 hr6 ⊢
        clear pl rl p0 p1 p2 p3 p4 pf r0 r1 r2 r3 r4 rf cl x0 x1 x2 xf pl9 rl9 p09 p19 p29 p39 p49 pf9 r09 r19 r29 r39 r49 rf9 cl9 x09 x19 x29 xf9 hC hv hS5 hS hw6 hv5 hb5 hr5
        have est := aw_str (RB.more hr6.out hS6.out.below.size) n2 d5 N2.out
        rw [show ({ data := tx.toArray } : ByteArray) = tt2 from M2.out.symm] at est
        obtain ⟨X0, n0, m0, q0, b0, hv, hC⟩ := hS6.out.cells
        obtain ⟨⟨pl, rl, p0, p1, p2, p3, p4, pf, r0, r1, r2, r3, r4, rf⟩, cl, x0, x1, x2, xf⟩ := id hC
        go_wp2_with (fail)
        go_meet
        exact hS6.out.set2 tt2
    case rest =>
      clear hS
      have hS := hcut
      clear hcut
      go_upto_if 66 with (fail)
      go_cut [17, 18, 19, 20] from 29 to 146 (fun _ _ _ _ wx => Hid (RefS w wx A b c C P s4 (k : Int) tt1 tt2 z { data := #[] }))
      case first =>
        have g9 := G4.out
        unfold rdNum at g9
        cases fz
        · rw [if_neg (by simp)] at g9
          simp only [Prod.mk.injEq] at g9
          obtain ⟨g9a, g9b⟩ := g9
          have G9a := Lib.hid g9a
          have G9b := Lib.hid g9b
          clear g9a g9b
          go_wp2_with (fail)
          go_meet
          rw [← G9a.out, ← G9b.out]
          exact hS.out
        · rw [if_pos rfl] at g9
          obtain ⟨sa, sg, ea⟩ : ∃ s l, stepByte s3 = (s, l) := ⟨_, _, rfl⟩
          obtain ⟨sb, x, eb⟩ : ∃ s l, stepTake 4 sa = (s, l) := ⟨_, _, rfl⟩
          have hx4 : x.length = 0 ∨ x.length = 4 := by have := take4_len sa; rw [eb] at this; exact this
          rw [ea] at g9
          simp only [] at g9
          rw [eb] at g9
          simp only [Prod.mk.injEq] at g9
          obtain ⟨g9a, g9b⟩ := g9
          have g9a := g9a.symm
          subst g9a
          obtain ⟨nx, hnx⟩ : ∃ m, m = x.length := ⟨_, rfl⟩
          have EA := Lib.hid ea
          have EB := Lib.hid eb
          have NX := Lib.hid hnx
          have GZ := Lib.hid g9b
          have X4 := Lib.hid hx4
          clear ea eb g9b hnx hx4
          obtain ⟨X0, n0, m0, q0, b0, hv, hC⟩ := hS.out.cells
          obtain ⟨⟨pl, rl, p0, p1, p2, p3, p4, pf, r0, r1, r2, r3, r4, rf⟩, cl, x0, x1, x2, xf⟩ := id hC
          go_upto_region 17 with (first
            | (go_at_call 36; (with_reducible refine (HTk.out 4 sa s4 x nx _ _ hva.out hS4.out.below EB.out NX.out).mono ?_); rintro e w5 ⟨Y, ny, my, qy, bo, A5, d5, rfl, hv5, hr5, hb5⟩; have hS5 := Lib.hid (hS4.out.up hb5.out); clear pl9 rl9 p09 p19 p29 p39 p49 pf9 r09 r19 r29 r39 r49 rf9 cl9 x09 x19 x29 xf9; obtain ⟨⟨pl9, rl9, p09, p19, p29, p39, p49, pf9, r09, r19, r29, r39, r49, rf9⟩, cl9, x09, x19, x29, xf9⟩ := hCa.up hb5.out)
            | (go_at_call 34; (with_reducible refine (HBy.out s3 sa sg _ _ hv hS.out.below EA.out).mono ?_); rintro e w5a ⟨Ya, nya, mya, qya, boa, rfl, hva, hba⟩; have hS4 := Lib.hid ((hS.out.up hba.out).up ((Below.refl w5a.heap.size w5a).alloc (Nat.le_refl _) (.cells #[.slice Ya nya mya, .int .i64 (qya : Int), .bool boa] 57))); have hCa := (hC.up hba.out).up ((Below.refl w5a.heap.size w5a).alloc (Nat.le_refl _) (.cells #[.slice Ya nya mya, .int .i64 (qya : Int), .bool boa] 57)); obtain ⟨⟨pl9, rl9, p09, p19, p29, p39, p49, pf9, r09, r19, r29, r39, r49, rf9⟩, cl9, x09, x19, x29, xf9⟩ := hC.up hba.out))
          have hS6 := Lib.hid ((hS5.out.setc hv5.out).up ((Below.refl _ _).alloc (Nat.le_refl _) (.cells #[.slice Y ny my, .int .i64 (qy : Int), .bool bo] 57)))
          have hr6 := Lib.hid (RB.below hr5.out ((below3 (Below.refl w.heap.size w5) (Nat.le_of_lt hS5.out.cw) (.slice Y ny my) (.int .i64 (qy : Int)) (.bool bo)).alloc (hS5.out.setc hv5.out).below.size (.cells #[.slice Y ny my, .int .i64 (qy : Int), .bool bo] 57)))
          obtain ⟨w6, hw6⟩ : ∃ x, x = (((w5.setCell ⟨C, 0, none⟩ (.slice Y ny my)).setCell ⟨C, 1, none⟩ (.int .i64 (qy : Int))).setCell ⟨C, 2, none⟩ (.bool bo)).alloc (.cells #[.slice Y ny my, .int .i64 (qy : Int), .bool bo] 57) := ⟨_, rfl⟩
          rw [← hw6] at hS6 hr6 ⊢
          clear pl rl p0 p1 p2 p3 p4 pf r0 r1 r2 r3 r4 rf cl x0 x1 x2 xf pl9 rl9 p09 p19 p29 p39 p49 pf9 r09 r19 r29 r39 r49 rf9 cl9 x09 x19 x29 xf9 hC hv hS5 hS hw6 hv5 hb5 hr5 hS4 hCa hva hba
          obtain ⟨X0, n0, m0, q0, b0, hv, hC⟩ := hS6.out.cells
          obtain ⟨⟨pl, rl, p0, p1, p2, p3, p4, pf, r0, r1, r2, r3, r4, rf⟩, cl, x0, x1, x2, xf⟩ := id hC
          have hun := unfixR_four x X4.out
          obtain ⟨u, hu⟩ : ∃ u : Int, u = if 2147483647 < unfixL x then 0 else (unfixL x : Int) := ⟨_, rfl⟩
          have hub : 0 ≤ u ∧ u ≤ 2147483647 := by rw [hu]; split <;> omega
          rw [← hu] at hun
          have HZu : Hid (z = if sg = 1 then -u else u) := by show _ = _; rw [← GZ.out]; unfold numI; rw [hu]
          have HU : Hid (Calls Tryd.prog 64 #[.slice A5 nx d5] w6 fun e w' => (∃ f, e = .returned (.tuple #[.int .i64 u, .int .i64 f])) ∧ w6 = w') := by
            show Calls _ _ _ _ _
            rw [NX.out]
            refine (refUnfix_any x A5 d5 _ w6 hr6.out (by have := X4.out; omega)).mono fun e w' hh => ?_
            obtain ⟨q1, q2⟩ := hh
            unfold UnfixPost at q1
            rw [hun] at q1
            exact ⟨⟨_, q1⟩, q2⟩
          have HX0 : Hid (nx ≠ 4 → u = 0) := fun h => by
            have h0 := X4.out
            have h1 := NX.out
            have : x = [] := List.length_eq_zero_iff.1 (by omega)
            rw [hu, this]
            rfl
          clear hun hu
          by_cases c4 : nx = 4
          · subst c4
            by_cases c1 : sg = 1
            · have d1 : ((sg : Int) == 1) = true := by rw [c1]; rfl
              have e1 : Hid (z = -u) := by show _ = _; rw [HZu.out, if_pos c1]
              have y0 : IntKind.i64.wrap (-u) = -u := IntWalk.i64_in _ (by omega)
              clear c1
              go_wp2_with (first
                | (go_at_call 64; (with_reducible refine HU.out.mono ?_); rintro e w7 ⟨⟨f7, rfl⟩, rfl⟩))
              go_meet
              rw [e1.out]
              exact (hS6.out.set3 u).set3 (-u)
            · have d1 : ((sg : Int) == 1) = false := by simp; omega
              have e1 : Hid (z = u) := by show _ = _; rw [HZu.out, if_neg c1]
              clear c1
              go_wp2_with (first
                | (go_at_call 64; (with_reducible refine HU.out.mono ?_); rintro e w7 ⟨⟨f7, rfl⟩, rfl⟩))
              go_meet
              rw [e1.out]
              exact hS6.out.set3 u
          · have hu0 : Hid (u = 0) := HX0.out c4
            have d4 : ((nx : Int) == 4) = false := by simp; omega
            have d4' : decide ((nx : Int) = 4) = false := decide_eq_false (by omega)
            by_cases c1 : sg = 1
            · have d1 : ((sg : Int) == 1) = true := by rw [c1]; rfl
              have e1 : Hid (z = -u) := by show _ = _; rw [HZu.out, if_pos c1]
              have y0 : IntKind.i64.wrap (-u) = -u := IntWalk.i64_in _ (by omega)
              clear c1 c4
              go_wp2_with (fail)
              go_meet
              rw [e1.out, hu0.out]
              exact hS6.out.set3 0
            · have d1 : ((sg : Int) == 1) = false := by simp; omega
              have e1 : Hid (z = u) := by show _ = _; rw [HZu.out, if_neg c1]
              clear c1 c4
              go_wp2_with (fail)
              go_meet
              rw [e1.out, hu0.out]
              exact hS6.out
      case rest =>
        clear hS
        have hS := hcut
        clear hcut
        obtain ⟨k5, hk5⟩ : ∃ x, x = decide (k = 5) := ⟨_, rfl⟩
        have ha5 : k = 5 → fa = true := fun h => by rw [HFA.out, h]; rfl
        have d5 : ((k : Int) == 5) = k5 := by rw [hk5, Bool.eq_iff_iff]; simp; omega
        have d5' : decide ((k : Int) = 5) = k5 := by rw [hk5, Bool.eq_iff_iff]; simp; omega
        have K5 : Hid ((k5 = true → stepByte s4 = (s5, is) ∧ fa = true) ∧ (k5 = false → s5 = s4 ∧ is = 1)) := by
          have g := G5.out
          refine ⟨fun h => ?_, fun h => ?_⟩
          · rw [hk5] at h
            have h := of_decide_eq_true h
            rw [if_pos h] at g
            exact ⟨g, ha5 h⟩
          · rw [hk5] at h
            have h := of_decide_eq_false h
            rw [if_neg h] at g
            simp only [Prod.mk.injEq] at g
            exact ⟨g.1.symm, g.2.symm⟩
        clear hk5 ha5
        obtain ⟨bc, hbc⟩ : ∃ x, x = (fa && k5) := ⟨_, rfl⟩
        have BC := Lib.hid hbc
        clear hbc
        go_upto_region 22 with (fail)
        go_cut [97] from 29 to 146 (fun s97 wx => s97 = .bool bc ∧ Hid (RefS w wx A b c C P s4 (k : Int) tt1 tt2 z { data := #[] }))
        case first =>
          cases fa
          · go_wp2_with (fail)
            go_meet
            exact ⟨by rw [BC.out]; rfl, hS.out⟩
          · go_wp2_with (fail)
            go_meet
            exact ⟨by rw [BC.out]; rfl, hS.out⟩
        case rest =>
          clear hS
          obtain ⟨rfl, hS⟩ := hcut
          go_upto_if 97 with (fail)
          go_cut [21, 22, 23] from 29 to 146 (fun s21 _ _ wx => s21 = .int .i64 (is : Int) ∧ Hid (RefS w wx A b c C P s5 (k : Int) tt1 tt2 z { data := #[] }))
          case first =>
            have BC2 : Hid (bc = k5) := by
              show _ = _
              rw [BC.out]
              cases hk : k5 with
              | false => simp
              | true => rw [(K5.out.1 hk).2]; rfl
            cases bc
            · obtain ⟨e5, ei⟩ := K5.out.2 BC2.out.symm
              have E5 := Lib.hid e5
              have EI := Lib.hid ei
              clear e5 ei
              go_wp2_with (fail)
              go_meet
              refine ⟨by rw [EI.out]; rfl, ?_⟩
              rw [E5.out]
              exact hS.out
            · obtain ⟨e5, ef⟩ := K5.out.1 BC2.out.symm
              have E5 := Lib.hid e5
              clear e5 ef
              obtain ⟨X0, n0, m0, q0, b0, hv, hC⟩ := hS.out.cells
              obtain ⟨⟨pl, rl, p0, p1, p2, p3, p4, pf, r0, r1, r2, r3, r4, rf⟩, cl, x0, x1, x2, xf⟩ := id hC
              go_upto_region 25 with (first
                | (go_at_call 34; (with_reducible refine (HBy.out s4 s5 is _ _ hv hS.out.below E5.out).mono ?_); rintro e w5 ⟨Y, ny, my, qy, bo, rfl, hv5, hb5⟩; have hS5 := Lib.hid (hS.out.up hb5.out); obtain ⟨⟨pl9, rl9, p09, p19, p29, p39, p49, pf9, r09, r19, r29, r39, r49, rf9⟩, cl9, x09, x19, x29, xf9⟩ := hC.up hb5.out))
              have hS6 := Lib.hid ((hS5.out.setc hv5.out).up ((Below.refl _ _).alloc (Nat.le_refl _) (.cells #[.slice Y ny my, .int .i64 (qy : Int), .bool bo] 57)))
              obtain ⟨w6, hw6⟩ : ∃ x, x = (((w5.setCell ⟨C, 0, none⟩ (.slice Y ny my)).setCell ⟨C, 1, none⟩ (.int .i64 (qy : Int))).setCell ⟨C, 2, none⟩ (.bool bo)).alloc (.cells #[.slice Y ny my, .int .i64 (qy : Int), .bool bo] 57) := ⟨_, rfl⟩
              rw [← hw6] at hS6 ⊢
              clear pl rl p0 p1 p2 p3 p4 pf r0 r1 r2 r3 r4 rf cl x0 x1 x2 xf pl9 rl9 p09 p19 p29 p39 p49 pf9 r09 r19 r29 r39 r49 rf9 cl9 x09 x19 x29 xf9 hC hv hS5 hS hw6 hv5 hb5
              go_wp2_with (fail)
              go_meet
              exact ⟨rfl, hS6.out⟩
          case rest =>
            clear hS
            obtain ⟨rfl, hS⟩ := hcut
            obtain ⟨i1, hi1⟩ : ∃ x, x = decide (is = 1) := ⟨_, rfl⟩
            have di : ((is : Int) == 1) = i1 := by rw [hi1, Bool.eq_iff_iff]; simp; omega
            have di' : decide ((is : Int) = 1) = i1 := by rw [hi1, Bool.eq_iff_iff]; simp; omega
            have K6 : Hid ((fa = true → i1 = true → stepTake 32 s5 = (s6, a)) ∧ (fa = false ∨ i1 = false → s6 = s5 ∧ a = [])) := by
              have g := G6.out
              refine ⟨fun h h9 => ?_, fun h => ?_⟩
              · rw [hi1] at h9
                have h9 := of_decide_eq_true h9
                rw [if_pos ⟨h, h9⟩] at g
                exact g
              · rw [if_neg] at g
                · simp only [Prod.mk.injEq] at g
                  exact ⟨g.1.symm, g.2.symm⟩
                · rintro ⟨q1, q2⟩
                  rcases h with h | h
                  · rw [q1] at h; cases h
                  · rw [hi1, decide_eq_true q2] at h; cases h
            clear hi1
            obtain ⟨bd, hbd⟩ : ∃ x, x = (fa && i1) := ⟨_, rfl⟩
            have BD := Lib.hid hbd
            clear hbd
            go_upto_region 26 with (fail)
            go_cut [109] from 29 to 146 (fun s109 wx => s109 = .bool bd ∧ Hid (RefS w wx A b c C P s5 (k : Int) tt1 tt2 z { data := #[] }))
            case first =>
              cases fa
              · go_wp2_with (fail)
                go_meet
                exact ⟨by rw [BD.out]; rfl, hS.out⟩
              · go_wp2_with (fail)
                go_meet
                exact ⟨by rw [BD.out]; rfl, hS.out⟩
            case rest =>
              clear hS
              obtain ⟨rfl, hS⟩ := hcut
              go_upto_if 109 with (fail)
              go_cut [24, 25] from 29 to 146 (fun _ _ wx => Hid (RefS w wx A b c C P s6 (k : Int) tt1 tt2 z tt3))
              case first =>
                have M30 : Hid (a = [] → tt3 = { data := #[] }) := fun h => by rw [M3.out, h]; rfl
                cases bd
                · have hor : fa = false ∨ i1 = false := and_noO BD.out
                  obtain ⟨e5, ei⟩ := K6.out.2 hor
                  have E5 := Lib.hid e5
                  have EI := Lib.hid (M30.out ei)
                  clear e5 ei hor
                  go_wp2_with (fail)
                  go_meet
                  rw [E5.out, EI.out]
                  exact hS.out
                · have E5 : Hid (stepTake 32 s5 = (s6, a)) := K6.out.1 (and_yesO BD.out).1 (and_yesO BD.out).2
                  obtain ⟨X0, n0, m0, q0, b0, hv, hC⟩ := hS.out.cells
                  obtain ⟨⟨pl, rl, p0, p1, p2, p3, p4, pf, r0, r1, r2, r3, r4, rf⟩, cl, x0, x1, x2, xf⟩ := id hC
                  go_upto_region 29 with (first
                    | (go_at_call 36; (with_reducible refine (HTk.out 32 s5 s6 a n3 _ _ hv hS.out.below E5.out N3.out).mono ?_); rintro e w5 ⟨Y, ny, my, qy, bo, A5, d5, rfl, hv5, hr5, hb5⟩; have hS5 := Lib.hid (hS.out.up hb5.out); obtain ⟨⟨pl9, rl9, p09, p19, p29, p39, p49, pf9, r09, r19, r29, r39, r49, rf9⟩, cl9, x09, x19, x29, xf9⟩ := hC.up hb5.out))
                  have hS6 := Lib.hid ((hS5.out.setc hv5.out).up ((Below.refl _ _).alloc (Nat.le_refl _) (.cells #[.slice Y ny my, .int .i64 (qy : Int), .bool bo] 57)))
                  have hr6 := Lib.hid (RB.below hr5.out ((below3 (Below.refl w.heap.size w5) (Nat.le_of_lt hS5.out.cw) (.slice Y ny my) (.int .i64 (qy : Int)) (.bool bo)).alloc (hS5.out.setc hv5.out).below.size (.cells #[.slice Y ny my, .int .i64 (qy : Int), .bool bo] 57)))
                  obtain ⟨w6, hw6⟩ : ∃ x, x = (((w5.setCell ⟨C, 0, none⟩ (.slice Y ny my)).setCell ⟨C, 1, none⟩ (.int .i64 (qy : Int))).setCell ⟨C, 2, none⟩ (.bool bo)).alloc (.cells #[.slice Y ny my, .int .i64 (qy : Int), .bool bo] 57) := ⟨_, rfl⟩
                  rw [← hw6] at hS6 hr6 ⊢
                  clear pl rl p0 p1 p2 p3 p4 pf r0 r1 r2 r3 r4 rf cl x0 x1 x2 xf pl9 rl9 p09 p19 p29 p39 p49 pf9 r09 r19 r29 r39 r49 rf9 cl9 x09 x19 x29 xf9 hC hv hS5 hS hw6 hv5 hb5 hr5
                  have est := aw_str (RB.more hr6.out hS6.out.below.size) n3 d5 N3.out
                  rw [show ({ data := a.toArray } : ByteArray) = tt3 from M3.out.symm] at est
                  obtain ⟨X0, n0, m0, q0, b0, hv, hC⟩ := hS6.out.cells
                  obtain ⟨⟨pl, rl, p0, p1, p2, p3, p4, pf, r0, r1, r2, r3, r4, rf⟩, cl, x0, x1, x2, xf⟩ := id hC
                  go_wp2_with (fail)
                  go_meet
                  exact hS6.out.set4 tt3
              case rest =>
                clear hS
                have hS := hcut
                clear hcut
                obtain ⟨lf, hlf⟩ : ∃ x, x = leftN s6 := ⟨_, rfl⟩
                have eV : opV ⟨(k : Int), nm, tx, z, a⟩ = .agg #[.int .i64 (k : Int), .string tt1, .string tt2, .int .i64 z, .string tt3] := by rw [M1.out, M2.out, M3.out]; rfl
                obtain ⟨op, hop⟩ : ∃ o : Opn, o = ⟨(k : Int), nm, tx, z, a⟩ := ⟨_, rfl⟩
                rw [← hop] at eV HD HP
                rw [eV] at HP
                rw [← hlf] at HLf
                have EV := Lib.hid eV
                obtain ⟨X0, n0, m0, q0, b0, hv, hC⟩ := hS.out.cells
                obtain ⟨⟨pl, rl, p0, p1, p2, p3, p4, pf, r0, r1, r2, r3, r4, rf⟩, cl, x0, x1, x2, xf⟩ := id hC
                have hbx : Hid (b0 = s6.isNone) := refv_boolO hv
                have hlb : lf ≤ n := by rw [hlf, HNn.out]; exact refv_left hv
                obtain ⟨sz, hsz⟩ : ∃ m, m = n - lf := ⟨_, rfl⟩
                have ys : (n : Int) - (lf : Int) = (sz : Int) := by omega
                have ysw : IntKind.i64.wrap (sz : Int) = (sz : Int) := IntWalk.i64_in _ (by omega)
                have szn : (sz : Int) ≤ (n : Int) := by omega
                have szc : (sz : Int) ≤ (c : Int) := by omega
                have sz0 : (0 : Int) ≤ (sz : Int) := by omega
                have HNo : Hid (s6.isNone = true ∨ op.mayB = false ∨ op.bytes ≠ b.take sz → GetsO b none) := fun h => rget_no HD.out (by rw [hsz, HNn.out, hlf] at h; exact h)
                have HYs : Hid (op.mayB = true → op.bytes = b.take sz → GetsO b (some (op, sz))) := fun h1 h2 => by rw [hsz, HNn.out, hlf] at h2 ⊢; exact rget_yes h1 h2
                have HSB : Hid (∀ W, Below w.heap.size w W → (convert 29 9 (.slice A sz c)).run Tryd.prog W = .ok (.string ⟨(b.take sz).toArray⟩) W) := fun W hb => aw_str (RB.more (RB.below (rb_takeO HA.out sz) hb) hb.size) sz c (by rw [List.length_take, ← HNn.out]; omega)
                obtain ⟨BT, hBT⟩ : ∃ l, l = b.take sz := ⟨_, rfl⟩
                rw [← hBT] at HNo HYs HSB
                clear hBT hlf hsz hop eV
                cases hm : op.mayB with
                | false =>
                  have HV := Lib.hid (HNo.out (.inr (.inl hm)))
                  have HP2 : Hid (∀ W, Calls Tryd.prog 21 #[.agg #[.int .i64 (k : Int), .string tt1, .string tt2, .int .i64 z, .string tt3]] W fun e w' => e = .returned (.tuple #[.slice none 0 0, .int .i64 1]) ∧ Below W.heap.size W w') := fun W => (HP.out W).mono fun e w' hh => by
                    unfold PutsO at hh
                    rw [hm, if_neg (by simp)] at hh
                    exact hh
                  clear hm HP HNo HYs
                  cases b0
                  · go_upto_region 32 with (first
                      | (go_at_call 38; (with_reducible refine (HLf.out _ _ hv).mono ?_); rintro e w8 ⟨rfl, hb8⟩; have hb8 := Lib.hid hb8; have hS8 := Lib.hid (hS7.out.up hb8.out); obtain ⟨⟨pl8, rl8, p08, p18, p28, p38, p48, pf8, r08, r18, r28, r38, r48, rf8⟩, cl8, x08, x18, x28, xf8⟩ := (hC.up hb7.out).up hb8.out; have hQ8 : ∀ j, Below w8.heap.size w8 (w8.drewN j) := (fun j => ⟨rfl, rfl, rfl, Nat.le_refl _, fun _ _ => rfl⟩); have sb := fun j => HSB.out (w8.drewN j) (hS8.out.up (hQ8 j)).below)
                      | (go_at_call 21; (with_reducible refine (HP2.out _).mono ?_); rintro e w7 ⟨rfl, hb7⟩; have hb7 := Lib.hid hb7; have hS7 := Lib.hid (hS.out.up hb7.out); obtain ⟨⟨pl9, rl9, p09, p19, p29, p39, p49, pf9, r09, r19, r29, r39, r49, rf9⟩, cl9, x09, x19, x29, xf9⟩ := hC.up hb7.out))
                    go_quiet (fail)
                    go_wp2
                    obtain ⟨E, hE⟩ : ∃ E, E = ((((((w8.drewN nq).setCell ⟨w.heap.size, 0, none⟩ (.int .i64 0)).setCell ⟨w.heap.size, 1, none⟩ (.string { data := #[] })).setCell ⟨w.heap.size, 2, none⟩ (.string { data := #[] })).setCell ⟨w.heap.size, 3, none⟩ (.int .i64 0)).setCell ⟨w.heap.size, 4, none⟩ (.string { data := #[] })) := ⟨_, rfl⟩
                    obtain ⟨⟨y0, y1, y2, y3, y4⟩, hbE⟩ := op_end (hS8.out.up (hQ8 nq)).below (hS8.out.up (hQ8 nq)).res (Nat.le_refl _) hE
                    rw [← hE]
                    refine bodyPost_ret (v := .tuple #[.agg #[.int .i64 0, .string { data := #[] }, .string { data := #[] }, .int .i64 0, .string { data := #[] }], .int .i64 0, .int .i64 5]) (by simp [results, Tryd.results37, go_sem, y0, y1, y2, y3, y4]) rfl ?_
                    exact ⟨⟨none, HV.out, rfl⟩, hbE⟩
                  · go_upto_region 32 with (first
                      | (go_at_call 38; (with_reducible refine (HLf.out _ _ hv).mono ?_); rintro e w8 ⟨rfl, hb8⟩; have hb8 := Lib.hid hb8; have hS8 := Lib.hid (hS7.out.up hb8.out); obtain ⟨⟨pl8, rl8, p08, p18, p28, p38, p48, pf8, r08, r18, r28, r38, r48, rf8⟩, cl8, x08, x18, x28, xf8⟩ := (hC.up hb7.out).up hb8.out; have hQ8 : ∀ j, Below w8.heap.size w8 (w8.drewN j) := (fun j => ⟨rfl, rfl, rfl, Nat.le_refl _, fun _ _ => rfl⟩); have sb := fun j => HSB.out (w8.drewN j) (hS8.out.up (hQ8 j)).below)
                      | (go_at_call 21; (with_reducible refine (HP2.out _).mono ?_); rintro e w7 ⟨rfl, hb7⟩; have hb7 := Lib.hid hb7; have hS7 := Lib.hid (hS.out.up hb7.out); obtain ⟨⟨pl9, rl9, p09, p19, p29, p39, p49, pf9, r09, r19, r29, r39, r49, rf9⟩, cl9, x09, x19, x29, xf9⟩ := hC.up hb7.out))
                    go_quiet (fail)
                    go_wp2
                    obtain ⟨E, hE⟩ : ∃ E, E = ((((((w8.drewN nq).setCell ⟨w.heap.size, 0, none⟩ (.int .i64 0)).setCell ⟨w.heap.size, 1, none⟩ (.string { data := #[] })).setCell ⟨w.heap.size, 2, none⟩ (.string { data := #[] })).setCell ⟨w.heap.size, 3, none⟩ (.int .i64 0)).setCell ⟨w.heap.size, 4, none⟩ (.string { data := #[] })) := ⟨_, rfl⟩
                    obtain ⟨⟨y0, y1, y2, y3, y4⟩, hbE⟩ := op_end (hS8.out.up (hQ8 nq)).below (hS8.out.up (hQ8 nq)).res (Nat.le_refl _) hE
                    rw [← hE]
                    refine bodyPost_ret (v := .tuple #[.agg #[.int .i64 0, .string { data := #[] }, .string { data := #[] }, .int .i64 0, .string { data := #[] }], .int .i64 0, .int .i64 5]) (by simp [results, Tryd.results37, go_sem, y0, y1, y2, y3, y4]) rfl ?_
                    exact ⟨⟨none, HV.out, rfl⟩, hbE⟩
                | true =>
                  obtain ⟨q, hq⟩ : ∃ q, q = op.bytes.length := ⟨_, rfl⟩
                  have hq96 : q ≤ 96 := by rw [hq]; exact bytes_len ((mayB_iff op).1 hm)
                  obtain ⟨OB, hOB⟩ : ∃ l, l = op.bytes := ⟨_, rfl⟩
                  have HP2 : Hid (∀ W, Calls Tryd.prog 21 #[.agg #[.int .i64 (k : Int), .string tt1, .string tt2, .int .i64 z, .string tt3]] W fun e w' => ∃ A4 c4, e = .returned (.tuple #[.slice A4 q c4, .int .i64 0]) ∧ Hid (RB w' w'.heap.size A4 OB) ∧ Below W.heap.size W w') := fun W => (HP.out W).mono fun e w' hh => by
                    unfold PutsO at hh
                    rw [hm, if_pos rfl] at hh
                    obtain ⟨A4, c4, q1, q2, q3⟩ := hh
                    exact ⟨A4, c4, by rw [hq]; exact q1, by rw [hOB]; exact own_rb q2, q3⟩
                  rw [← hOB] at hq HNo HYs
                  have HQ := Lib.hid hq
                  have HM := Lib.hid hm
                  clear hm HP hq hOB
                  cases b0
                  · by_cases ce : OB = BT
                    · have HV := Lib.hid (HYs.out HM.out ce)
                      have v0 : (OB == BT) = true := by rw [beq_iff_eq]; exact ce
                      have v1 : (OB != BT) = false := by rw [ce]; simp
                      have v2 : decide (OB = BT) = true := decide_eq_true ce
                      clear HNo HYs ce
                      go_upto_region 32 with (first
                        | (go_at_call 38; (with_reducible refine (HLf.out _ _ hv).mono ?_); rintro e w8 ⟨rfl, hb8⟩; have hb8 := Lib.hid hb8; have hS8 := Lib.hid (hS7.out.up hb8.out); obtain ⟨⟨pl8, rl8, p08, p18, p28, p38, p48, pf8, r08, r18, r28, r38, r48, rf8⟩, cl8, x08, x18, x28, xf8⟩ := (hC.up hb7.out).up hb8.out; have hQ8 : ∀ j, Below w8.heap.size w8 (w8.drewN j) := (fun j => ⟨rfl, rfl, rfl, Nat.le_refl _, fun _ _ => rfl⟩); have sb := fun j => HSB.out (w8.drewN j) (hS8.out.up (hQ8 j)).below; have sx := fun j => aw_str (rb_up7 (rb_up7 hr7.out hb8.out) (hQ8 j)) q c4 HQ.out)
                        | (go_at_call 21; (with_reducible refine (HP2.out _).mono ?_); rintro e w7 ⟨A4, c4, rfl, hr7, hb7⟩; have hb7 := Lib.hid hb7; have hS7 := Lib.hid (hS.out.up hb7.out); obtain ⟨⟨pl9, rl9, p09, p19, p29, p39, p49, pf9, r09, r19, r29, r39, r49, rf9⟩, cl9, x09, x19, x29, xf9⟩ := hC.up hb7.out))
                      go_quiet (fail)
                      go_wp2
                      obtain ⟨E, hE⟩ : ∃ E, E = ((((((w8.drewN nq).setCell ⟨w.heap.size, 0, none⟩ (.int .i64 (k : Int))).setCell ⟨w.heap.size, 1, none⟩ (.string tt1)).setCell ⟨w.heap.size, 2, none⟩ (.string tt2)).setCell ⟨w.heap.size, 3, none⟩ (.int .i64 z)).setCell ⟨w.heap.size, 4, none⟩ (.string tt3)) := ⟨_, rfl⟩
                      obtain ⟨⟨y0, y1, y2, y3, y4⟩, hbE⟩ := op_end (hS8.out.up (hQ8 nq)).below (hS8.out.up (hQ8 nq)).res (Nat.le_refl _) hE
                      rw [← hE]
                      refine bodyPost_ret (v := .tuple #[.agg #[.int .i64 (k : Int), .string tt1, .string tt2, .int .i64 z, .string tt3], .int .i64 (sz : Int), .int .i64 0]) (by simp [results, Tryd.results37, go_sem, y0, y1, y2, y3, y4]) rfl ?_
                      exact ⟨⟨_, HV.out, by show _ = Ending.returned (.tuple #[opV op, .int .i64 (sz : Int), .int .i64 0]); rw [EV.out]⟩, hbE⟩
                    · have HV := Lib.hid (HNo.out (.inr (.inr ce)))
                      have v0 : (OB == BT) = false := by rw [beq_eq_false_iff_ne]; exact ce
                      have v1 : (OB != BT) = true := by rw [bne_iff_ne]; exact ce
                      have v2 : decide (OB = BT) = false := decide_eq_false ce
                      clear HNo HYs ce
                      go_upto_region 32 with (first
                        | (go_at_call 38; (with_reducible refine (HLf.out _ _ hv).mono ?_); rintro e w8 ⟨rfl, hb8⟩; have hb8 := Lib.hid hb8; have hS8 := Lib.hid (hS7.out.up hb8.out); obtain ⟨⟨pl8, rl8, p08, p18, p28, p38, p48, pf8, r08, r18, r28, r38, r48, rf8⟩, cl8, x08, x18, x28, xf8⟩ := (hC.up hb7.out).up hb8.out; have hQ8 : ∀ j, Below w8.heap.size w8 (w8.drewN j) := (fun j => ⟨rfl, rfl, rfl, Nat.le_refl _, fun _ _ => rfl⟩); have sb := fun j => HSB.out (w8.drewN j) (hS8.out.up (hQ8 j)).below; have sx := fun j => aw_str (rb_up7 (rb_up7 hr7.out hb8.out) (hQ8 j)) q c4 HQ.out)
                        | (go_at_call 21; (with_reducible refine (HP2.out _).mono ?_); rintro e w7 ⟨A4, c4, rfl, hr7, hb7⟩; have hb7 := Lib.hid hb7; have hS7 := Lib.hid (hS.out.up hb7.out); obtain ⟨⟨pl9, rl9, p09, p19, p29, p39, p49, pf9, r09, r19, r29, r39, r49, rf9⟩, cl9, x09, x19, x29, xf9⟩ := hC.up hb7.out))
                      go_quiet (fail)
                      go_wp2
                      obtain ⟨E, hE⟩ : ∃ E, E = ((((((w8.drewN nq).setCell ⟨w.heap.size, 0, none⟩ (.int .i64 0)).setCell ⟨w.heap.size, 1, none⟩ (.string { data := #[] })).setCell ⟨w.heap.size, 2, none⟩ (.string { data := #[] })).setCell ⟨w.heap.size, 3, none⟩ (.int .i64 0)).setCell ⟨w.heap.size, 4, none⟩ (.string { data := #[] })) := ⟨_, rfl⟩
                      obtain ⟨⟨y0, y1, y2, y3, y4⟩, hbE⟩ := op_end (hS8.out.up (hQ8 nq)).below (hS8.out.up (hQ8 nq)).res (Nat.le_refl _) hE
                      rw [← hE]
                      refine bodyPost_ret (v := .tuple #[.agg #[.int .i64 0, .string { data := #[] }, .string { data := #[] }, .int .i64 0, .string { data := #[] }], .int .i64 0, .int .i64 5]) (by simp [results, Tryd.results37, go_sem, y0, y1, y2, y3, y4]) rfl ?_
                      exact ⟨⟨none, HV.out, rfl⟩, hbE⟩
                  · have HV := Lib.hid (HNo.out (.inl hbx.out.symm))
                    clear HNo HYs
                    go_upto_region 32 with (first
                      | (go_at_call 38; (with_reducible refine (HLf.out _ _ hv).mono ?_); rintro e w8 ⟨rfl, hb8⟩; have hb8 := Lib.hid hb8; have hS8 := Lib.hid (hS7.out.up hb8.out); obtain ⟨⟨pl8, rl8, p08, p18, p28, p38, p48, pf8, r08, r18, r28, r38, r48, rf8⟩, cl8, x08, x18, x28, xf8⟩ := (hC.up hb7.out).up hb8.out; have hQ8 : ∀ j, Below w8.heap.size w8 (w8.drewN j) := (fun j => ⟨rfl, rfl, rfl, Nat.le_refl _, fun _ _ => rfl⟩); have sb := fun j => HSB.out (w8.drewN j) (hS8.out.up (hQ8 j)).below; have sx := fun j => aw_str (rb_up7 (rb_up7 hr7.out hb8.out) (hQ8 j)) q c4 HQ.out)
                      | (go_at_call 21; (with_reducible refine (HP2.out _).mono ?_); rintro e w7 ⟨A4, c4, rfl, hr7, hb7⟩; have hb7 := Lib.hid hb7; have hS7 := Lib.hid (hS.out.up hb7.out); obtain ⟨⟨pl9, rl9, p09, p19, p29, p39, p49, pf9, r09, r19, r29, r39, r49, rf9⟩, cl9, x09, x19, x29, xf9⟩ := hC.up hb7.out))
                    go_quiet (fail)
                    go_wp2
                    obtain ⟨E, hE⟩ : ∃ E, E = ((((((w8.drewN nq).setCell ⟨w.heap.size, 0, none⟩ (.int .i64 0)).setCell ⟨w.heap.size, 1, none⟩ (.string { data := #[] })).setCell ⟨w.heap.size, 2, none⟩ (.string { data := #[] })).setCell ⟨w.heap.size, 3, none⟩ (.int .i64 0)).setCell ⟨w.heap.size, 4, none⟩ (.string { data := #[] })) := ⟨_, rfl⟩
                    obtain ⟨⟨y0, y1, y2, y3, y4⟩, hbE⟩ := op_end (hS8.out.up (hQ8 nq)).below (hS8.out.up (hQ8 nq)).res (Nat.le_refl _) hE
                    rw [← hE]
                    refine bodyPost_ret (v := .tuple #[.agg #[.int .i64 0, .string { data := #[] }, .string { data := #[] }, .int .i64 0, .string { data := #[] }], .int .i64 0, .int .i64 5]) (by simp [results, Tryd.results37, go_sem, y0, y1, y2, y3, y4]) rfl ?_
                    exact ⟨⟨none, HV.out, rfl⟩, hbE⟩
end
end Go.Proofs.YtinphkflfdpaeaaDoor
