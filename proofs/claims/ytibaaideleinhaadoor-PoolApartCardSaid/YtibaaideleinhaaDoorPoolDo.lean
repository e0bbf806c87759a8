/- The walk of the law's do (layer 11): a deed with the program's pool and with the reference's. -/
import Derived.Test.YtibaaideleinhaaDoorPoolAlike
import Derived.Test.YtibaaideleinhaaDoorPoolRGive
set_option linter.unusedVariables false
namespace Go.Proofs.YtibaaideleinhaaDoor
open Go.RowKit

/-- What a deed makes of a pool. -/
def stepP (p : Pl) (kind n : Int) (l : List Int) : Pl := if kind = 1 then (p.take n).1 else if kind = 2 then (p.give l).1 else if kind = 3 then (p.mark l).1 else p
theorem Tryd.deedAgg (w : World) : (isAgg 38).run Tryd.prog w = .ok true w := by kernel_rfl
theorem Tryd.deedSize (w : World) : (sizeOf 38).run Tryd.prog w = .ok 3 w := by kernel_rfl
theorem not_foot11 {W W' : World} {F F' : Nat → Prop} {k : Nat} (ht : Turns W W' F F') (hk : k < W.heap.size) (hn : ¬ F k) : ¬ F' k := fun hf => by
  rcases ht.foot _ hf with h1 | h1
  · exact hn h1
  · omega
/-- The three variables of do. -/
structure Bx (W : World) (F : Nat → Prop) (g4 g5 g6 : Nat) (A4 A5 : Array Value) : Prop where
  b4 : Blk W g4 29 A4
  b5 : Blk W g5 38 A5
  b6 : Blk W g6 29 #[.int .i64 0, .slice none 0 0]
  n4 : ¬ F g4
  n5 : ¬ F g5
  n6 : ¬ F g6
theorem Bx.turned {W W' : World} {F F' : Nat → Prop} {g4 g5 g6 : Nat} {A4 A5 : Array Value} (h : Bx W F g4 g5 g6 A4 A5) (ht : Turns W W' F F') : Bx W' F' g4 g5 g6 A4 A5 := ⟨h.b4.turns ht h.n4, h.b5.turns ht h.n5, h.b6.turns ht h.n6, not_foot11 ht h.b4.lt h.n4, not_foot11 ht h.b5.lt h.n5, not_foot11 ht h.b6.lt h.n6⟩
theorem Bx.more {W W' : World} {F : Nat → Prop} {g4 g5 g6 : Nat} {A4 A5 : Array Value} (h : Bx W F g4 g5 g6 A4 A5) (hb : Below W.heap.size W W') : Bx W' F g4 g5 g6 A4 A5 := h.turned (Turns.of_below hb F)
theorem bx_first {w : World} {F : Nat → Prop} (A4 A5 : Array Value) (hF : ∀ k, F k → k < w.heap.size) : Bx (((w.alloc (.cells A4 29)).alloc (.cells A5 38)).alloc (.cells #[.int .i64 0, .slice none 0 0] 29)) F w.heap.size (w.heap.size + 1) (w.heap.size + 1 + 1) A4 A5 := by
  have e1 : (w.alloc (.cells A4 29)).heap.size = w.heap.size + 1 := by simp
  have e2 : ((w.alloc (.cells A4 29)).alloc (.cells A5 38)).heap.size = w.heap.size + 1 + 1 := by simp
  have k5 := Blk.new (w.alloc (.cells A4 29)) 38 A5
  have k6 := Blk.new ((w.alloc (.cells A4 29)).alloc (.cells A5 38)) 29 #[.int .i64 0, .slice none 0 0]
  rw [e1] at k5
  rw [e2] at k6
  exact ⟨((Blk.new w _ _).alloc _).alloc _, k5.alloc _, k6, fun hf => by have := hF _ hf; omega, fun hf => by have := hF _ hf; omega, fun hf => by have := hF _ hf; omega⟩
theorem eeql_run {o : Oper} {a : Act} {w : World} (x y : Operand) (p q : Int) (ho : o.op = .binOp .eql 24 x y 24) (hx : a.eval x = .int .i64 p) (hy : a.eval y = .int .i64 q) (v : Bool) (hv : (p == q) = v) :
    (execOp a.eval o).run Tryd.prog w = .ok (.value (.bool v)) w := by
  subst hv
  have hv : (binOp .eql 24 (.int .i64 p) (.int .i64 q)).run Tryd.prog w = .ok (.bool (p == q)) w := by simp [go_sem]
  unfold execOp
  simp only [ho, hx, hy, Sem.run_bind, guard_intP, Result.andThen_ok, hv, Sem.run_pure]
theorem bbeql_run (p : Bool) {o : Oper} {a : Act} {w : World} (x y : Operand) (ho : o.op = .binOp .eql 4 x y 4) (hx : a.eval x = .bool p) (hy : a.eval y = .bool p) : (execOp a.eval o).run Tryd.prog w = .ok (.value (.bool true)) w := by
  unfold execOp
  simp only [ho, hx, hy]
  cases p <;> kernel_rfl
theorem turns_set_far {w W : World} {F F' : Nat → Prop} {gr i : Nat} {v : Value} (ht : Turns w W F F') (hg : w.heap.size ≤ gr) : Turns w (W.setCell ⟨gr, i, none⟩ v) F F' := by
  have h2 : Turns W (W.setCell ⟨gr, i, none⟩ v) (fun k => k = gr) (fun k => k = gr) := Turns.set_ (F := fun k => k = gr) rfl i v
  refine ⟨ht.os, ht.tape, ht.output, Nat.le_trans ht.size h2.size, fun k hk hn => ?_, fun k hk => ht.foot k hk⟩
  exact (h2.block k (Nat.lt_of_lt_of_le hk ht.size) (show ¬ k = gr by omega)).trans (ht.block k hk hn)
/-- A store into the result's block touches no pool. -/
theorem Bo.set2 {w0 W : World} {g : Nat} {F : Nat → Prop} {p q : Pl} {A : Option Addr} {c gr : Nat} {u v : Value} (h : Bo w0 W g F p q A c) (hF : ¬ F gr) (hA : 0 < q.tk.length → ∀ ad, A = some ad → ad.block ≠ gr) (h0 : w0.heap.size ≤ gr) (hq : gr ≠ TB) : Bo w0 ((W.setCell ⟨gr, 0, none⟩ u).setCell ⟨gr, 1, none⟩ v) g F p q A c :=
  ⟨h.pp.turns (turns_two W gr u v) (fun k hk e => hF (e ▸ hk)) (fun e => hq e.symm), plat_set2 h.rf hA, h.ap, h.own, h.below.trans ((turns_two W gr u v).below (fun k e => by rw [e]; exact h0) h.below.size)⟩
set_option maxRecDepth 100000 in
set_option maxHeartbeats 8000000 in
theorem do_give {w0 w : World} {g : Nat} {F : Nat → Prop} {p : Pl} {A : Option Addr} {c : Nat} (h : Bo w0 w g F p p A c) (kind nn : Int) (l : List Int) (L : Option Addr) (m d : Nat) (hL : RI w0 w0.heap.size L l) (hm : m = l.length) (hm4 : m ≤ 100000) (hl : ∀ z ∈ l, InZ z) (hnn : InZ nn) (hk : kind = 2) :
    Calls Tryd.prog 10 #[.pointer (some ⟨g, 0, none⟩), plV p A c, .agg #[.int .i64 kind, .int .i64 nn, .slice L m d]] w fun e w' => ∃ F' A' c', e = .returned (.tuple #[plV ((p.give l).1) A' c', .bool true]) ∧ Bo w0 w' g F' ((p.give l).1) ((p.give l).1) A' c' ∧ Turns w w' F F' ∧ ∀ ad, A' = some ad → A = some ad ∨ w.heap.size ≤ ad.block := by
  have a0 := fun w' => Tryd.poolAgg w'
  have s0 := fun w' => Tryd.poolSize w'
  have a1 := fun w' => Tryd.deedAgg w'
  have s1 := fun w' => Tryd.deedSize w'
  obtain ⟨n, hn⟩ : ∃ n, n = p.tk.length := ⟨_, rfl⟩
  obtain ⟨lo, hlo⟩ : ∃ n, n = p.lo := ⟨_, rfl⟩
  have hold : Hid (∀ W, Below w0.heap.size w0 W → RI W W.heap.size L l) := fun W hb => (hL.below hb).more hb.size
  have hoF : Hid (∀ W F' p' q' A' c', Bo w0 W g F' p' q' A' c' → 0 < m → ∀ ad, L = some ad → ¬ F' ad.block) := fun W F' p' q' A' c' hB h0 ad e hf => by
    obtain ⟨b, off, e2, hb, _⟩ := hL (by omega)
    rw [e] at e2; injection e2 with e2; subst e2
    have := hB.own _ hf; simp at this; omega
  have hb0 : Below w.heap.size w (((w.alloc (.cells #[.int .i64 lo, .slice A n c] 29)).alloc (.cells #[.int .i64 kind, .int .i64 nn, .slice L m d] 38)).alloc (.cells #[.int .i64 0, .slice none 0 0] 29)) := (((Below.refl w.heap.size w).alloc (Nat.le_refl _) _).alloc (by simp) _).alloc (by simp <;> omega) _
  have hX0 := bx_first (w := w) (F := F) #[.int .i64 lo, .slice A n c] #[.int .i64 kind, .int .i64 nn, .slice L m d] h.pp.flt
  have hB0 := h.more hb0
  have hA0 : Hid (0 < p.tk.length → ∀ ad, A = some ad → ad.block < w.heap.size) := fun h0 ad e => by
    obtain ⟨b, off, e2, hb, _⟩ := h.rf.bs.at_ h0
    rw [e] at e2; injection e2 with e2; subst e2; exact hb
  have hw0 : w0.heap.size ≤ w.heap.size := h.below.size
  subst hk
  obtain ⟨er, her⟩ : ∃ x, x = (p.give l).2 := ⟨_, rfl⟩
  obtain ⟨p1, hp1⟩ : ∃ x, x = (p.give l).1 := ⟨_, rfl⟩
  have hlen : p1.tk.length = n := by rw [hp1, (p.give_load l).2, hn]
  have hlo1 : p1.lo = lo := by rw [hp1, (p.give_load l).1, hlo]
  have HP : Hid (∀ W, Bo w0 W g F p p A c → Calls Tryd.prog 13 #[.pointer (some ⟨g, 0, none⟩), .slice L m d] W fun e w' => ∃ F', e = .returned (.int .i64 er) ∧ Bo w0 w' g F' p1 p A c ∧ Turns W w' F F') := fun W hB => (pgive_any hB.pp l L m d hm hm4 (hold.out _ hB.below) (hoF.out _ _ _ _ _ _ hB) hl).mono fun e w' hh => by
    obtain ⟨F', he, hp, ht⟩ := hh
    rw [← her] at he
    rw [← hp1] at hp
    exact ⟨F', he, hB.prog hp ht, ht⟩
  have HR : Hid (∀ W F', Bo w0 W g F' p1 p A c → Calls Tryd.prog 22 #[.agg #[.int .i64 lo, .slice A n c], .slice L m d] W fun e w' => ∃ A' c', e = .returned (.tuple #[.agg #[.int .i64 lo, .slice A' n c'], .int .i64 er]) ∧ Bo w0 w' g F' p1 p1 A' c' ∧ (∀ ad, A' = some ad → A = some ad ∨ W.heap.size ≤ ad.block) ∧ Below W.heap.size W w') := fun W F' hB => by
    have h1 := rpgive_any p l A L c m d W hB.rf (hold.out _ hB.below) hm hl hm4
    unfold plV at h1
    rw [← hn, ← hlo] at h1
    refine h1.mono fun e w' hh => ?_
    obtain ⟨v, he, ⟨A', c', ev, hpl, ho⟩, hb⟩ := hh
    rw [← her] at he
    rw [← hp1] at hpl ev
    refine ⟨A', c', ?_, hB.ref hpl hb ho (by rw [hlen, hn]), ho, hb⟩
    rw [he, ev]; unfold plV; rw [hlen, hlo1]
  have HV : Hid (∀ A' c', plV p1 A' c' = .agg #[.int .i64 lo, .slice A' n c']) := fun A' c' => by unfold plV; rw [hlen, hlo1]
  have HA1 : Hid (0 < p1.tk.length → 0 < p.tk.length) := fun h0 => by rw [hlen] at h0; omega
  rw [← hp1]
  unfold plV at *
  rw [← hn, ← hlo]
  have Hlen := Lib.hid hlen
  clear h hL hm hl hnn hn hlo her hp1 hlen hlo1
  go_enter Tryd.func10, Tryd.ntmps10
  go_wp2_with (first
    | (go_at_call 13; have hx := HP.out _ hB0; (with_reducible refine hx.mono ?_); clear hx; rintro e w2 ⟨F1, rfl, hB1, ht1⟩; have hX1 := hX0.turned ht1; have c40 : w2.cell? ⟨w.heap.size, 0, none⟩ = some (.int .i64 lo) := hX1.b4.cell 0; have c41 : w2.cell? ⟨w.heap.size, 1, none⟩ = some (.slice A n c) := hX1.b4.cell 1; have c50 : w2.cell? ⟨w.heap.size + 1, 0, none⟩ = some (.int .i64 2) := hX1.b5.cell 0; have c51 : w2.cell? ⟨w.heap.size + 1, 1, none⟩ = some (.int .i64 nn) := hX1.b5.cell 1; have c52 : w2.cell? ⟨w.heap.size + 1, 2, none⟩ = some (.slice L m d) := hX1.b5.cell 2; have c60 : w2.cell? ⟨w.heap.size + 1 + 1, 0, none⟩ = some (.int .i64 0) := hX1.b6.cell 0; have c61 : w2.cell? ⟨w.heap.size + 1 + 1, 1, none⟩ = some (.slice none 0 0) := hX1.b6.cell 1; have f60 := hX1.b6.frozen 0; have f61 := hX1.b6.frozen 1)
    | (go_at_call 22; have hx := HR.out _ _ hB1; (with_reducible refine hx.mono ?_); clear hx; rintro e w3 ⟨A1, d1, rfl, hB2, ho2, b2⟩; have hX2 := hX1.more b2; have hX3 := hX2.more ((Below.refl _ _).alloc (Nat.le_refl _) (.cells #[.int .i64 lo, .slice A1 n d1] 29)); have hB3 := hB2.more ((Below.refl _ _).alloc (Nat.le_refl _) (.cells #[.int .i64 lo, .slice A1 n d1] 29)); have c40 : (w3.alloc (.cells #[.int .i64 lo, .slice A1 n d1] 29)).cell? ⟨w.heap.size, 0, none⟩ = some (.int .i64 lo) := hX3.b4.cell 0; have c41 : (w3.alloc (.cells #[.int .i64 lo, .slice A1 n d1] 29)).cell? ⟨w.heap.size, 1, none⟩ = some (.slice A n c) := hX3.b4.cell 1; have c50 : (w3.alloc (.cells #[.int .i64 lo, .slice A1 n d1] 29)).cell? ⟨w.heap.size + 1, 0, none⟩ = some (.int .i64 2) := hX3.b5.cell 0; have c51 : (w3.alloc (.cells #[.int .i64 lo, .slice A1 n d1] 29)).cell? ⟨w.heap.size + 1, 1, none⟩ = some (.int .i64 nn) := hX3.b5.cell 1; have c52 : (w3.alloc (.cells #[.int .i64 lo, .slice A1 n d1] 29)).cell? ⟨w.heap.size + 1, 2, none⟩ = some (.slice L m d) := hX3.b5.cell 2; have c60 : (w3.alloc (.cells #[.int .i64 lo, .slice A1 n d1] 29)).cell? ⟨w.heap.size + 1 + 1, 0, none⟩ = some (.int .i64 0) := hX3.b6.cell 0; have c61 : (w3.alloc (.cells #[.int .i64 lo, .slice A1 n d1] 29)).cell? ⟨w.heap.size + 1 + 1, 1, none⟩ = some (.slice none 0 0) := hX3.b6.cell 1; have f60 := hX3.b6.frozen 0; have f61 := hX3.b6.frozen 1))
  obtain ⟨r0, r1⟩ := res_two (u0 := lo) (A := A1) (n := n) (c := d1) hX3.b6
  have hz2 := hX1.b6.lt
  have hT3 : Turns w (w3.alloc (.cells #[.int .i64 lo, .slice A1 n d1] 29)) F F1 := (((Turns.of_below hb0 F).trans ht1).trans (Turns.of_below b2 F1)).trans (Turns.alloc _ F1)
  have hB4 := hB3.set2 (u := .int .i64 lo) (v := .slice A1 n d1) (gr := w.heap.size + 1 + 1) hX3.n6 (fun h0 ad e => by
    rcases ho2 ad e with h1 | h1
    · have := hA0.out (HA1.out h0) ad h1; omega
    · omega) (by omega) (ne_tab hX3.b6 hB3.pp.tz (by simp))
  refine bodyPost_ret (v := .tuple #[.agg #[.int .i64 lo, .slice A1 n d1], .bool true]) (by simp [results, Tryd.results10, go_sem, r0, r1]) rfl ⟨F1, A1, d1, by rw [HV.out], hB4, turns_set_far (turns_set_far hT3 (by omega)) (by omega), fun ad e => (ho2 ad e).imp id (fun h => by omega)⟩
set_option maxRecDepth 100000 in
set_option maxHeartbeats 8000000 in
theorem do_mark {w0 w : World} {g : Nat} {F : Nat → Prop} {p : Pl} {A : Option Addr} {c : Nat} (h : Bo w0 w g F p p A c) (kind nn : Int) (l : List Int) (L : Option Addr) (m d : Nat) (hL : RI w0 w0.heap.size L l) (hm : m = l.length) (hm4 : m ≤ 100000) (hl : ∀ z ∈ l, InZ z) (hnn : InZ nn) (hk : kind = 3) :
    Calls Tryd.prog 10 #[.pointer (some ⟨g, 0, none⟩), plV p A c, .agg #[.int .i64 kind, .int .i64 nn, .slice L m d]] w fun e w' => ∃ F' A' c', e = .returned (.tuple #[plV ((p.mark l).1) A' c', .bool true]) ∧ Bo w0 w' g F' ((p.mark l).1) ((p.mark l).1) A' c' ∧ Turns w w' F F' ∧ ∀ ad, A' = some ad → A = some ad ∨ w.heap.size ≤ ad.block := by
  have a0 := fun w' => Tryd.poolAgg w'
  have s0 := fun w' => Tryd.poolSize w'
  have a1 := fun w' => Tryd.deedAgg w'
  have s1 := fun w' => Tryd.deedSize w'
  obtain ⟨n, hn⟩ : ∃ n, n = p.tk.length := ⟨_, rfl⟩
  obtain ⟨lo, hlo⟩ : ∃ n, n = p.lo := ⟨_, rfl⟩
  have hold : Hid (∀ W, Below w0.heap.size w0 W → RI W W.heap.size L l) := fun W hb => (hL.below hb).more hb.size
  have hoF : Hid (∀ W F' p' q' A' c', Bo w0 W g F' p' q' A' c' → 0 < m → ∀ ad, L = some ad → ¬ F' ad.block) := fun W F' p' q' A' c' hB h0 ad e hf => by
    obtain ⟨b, off, e2, hb, _⟩ := hL (by omega)
    rw [e] at e2; injection e2 with e2; subst e2
    have := hB.own _ hf; simp at this; omega
  have hb0 : Below w.heap.size w (((w.alloc (.cells #[.int .i64 lo, .slice A n c] 29)).alloc (.cells #[.int .i64 kind, .int .i64 nn, .slice L m d] 38)).alloc (.cells #[.int .i64 0, .slice none 0 0] 29)) := (((Below.refl w.heap.size w).alloc (Nat.le_refl _) _).alloc (by simp) _).alloc (by simp <;> omega) _
  have hX0 := bx_first (w := w) (F := F) #[.int .i64 lo, .slice A n c] #[.int .i64 kind, .int .i64 nn, .slice L m d] h.pp.flt
  have hB0 := h.more hb0
  have hA0 : Hid (0 < p.tk.length → ∀ ad, A = some ad → ad.block < w.heap.size) := fun h0 ad e => by
    obtain ⟨b, off, e2, hb, _⟩ := h.rf.bs.at_ h0
    rw [e] at e2; injection e2 with e2; subst e2; exact hb
  have hw0 : w0.heap.size ≤ w.heap.size := h.below.size
  subst hk
  obtain ⟨er, her⟩ : ∃ x, x = (p.mark l).2 := ⟨_, rfl⟩
  obtain ⟨p1, hp1⟩ : ∃ x, x = (p.mark l).1 := ⟨_, rfl⟩
  have hlen : p1.tk.length = n := by rw [hp1, (p.mark_load l).2, hn]
  have hlo1 : p1.lo = lo := by rw [hp1, (p.mark_load l).1, hlo]
  have HP : Hid (∀ W, Bo w0 W g F p p A c → Calls Tryd.prog 17 #[.pointer (some ⟨g, 0, none⟩), .slice L m d] W fun e w' => ∃ F', e = .returned (.int .i64 er) ∧ Bo w0 w' g F' p1 p A c ∧ Turns W w' F F') := fun W hB => (pmark_any hB.pp l L m d hm hm4 (hold.out _ hB.below) (hoF.out _ _ _ _ _ _ hB) hl).mono fun e w' hh => by
    obtain ⟨F', he, hp, ht⟩ := hh
    rw [← her] at he
    rw [← hp1] at hp
    exact ⟨F', he, hB.prog hp ht, ht⟩
  have HR : Hid (∀ W F', Bo w0 W g F' p1 p A c → Calls Tryd.prog 23 #[.agg #[.int .i64 lo, .slice A n c], .slice L m d] W fun e w' => ∃ A' c', e = .returned (.tuple #[.agg #[.int .i64 lo, .slice A' n c'], .int .i64 er]) ∧ Bo w0 w' g F' p1 p1 A' c' ∧ (∀ ad, A' = some ad → A = some ad ∨ W.heap.size ≤ ad.block) ∧ Below W.heap.size W w') := fun W F' hB => by
    have h1 := rpmark_any p l A L c m d W hB.rf (hold.out _ hB.below) hm hl hm4
    unfold plV at h1
    rw [← hn, ← hlo] at h1
    refine h1.mono fun e w' hh => ?_
    obtain ⟨v, he, ⟨A', c', ev, hpl, ho⟩, hb⟩ := hh
    rw [← her] at he
    rw [← hp1] at hpl ev
    refine ⟨A', c', ?_, hB.ref hpl hb ho (by rw [hlen, hn]), ho, hb⟩
    rw [he, ev]; unfold plV; rw [hlen, hlo1]
  have HV : Hid (∀ A' c', plV p1 A' c' = .agg #[.int .i64 lo, .slice A' n c']) := fun A' c' => by unfold plV; rw [hlen, hlo1]
  have HA1 : Hid (0 < p1.tk.length → 0 < p.tk.length) := fun h0 => by rw [hlen] at h0; omega
  rw [← hp1]
  unfold plV at *
  rw [← hn, ← hlo]
  have Hlen := Lib.hid hlen
  clear h hL hm hl hnn hn hlo her hp1 hlen hlo1
  go_enter Tryd.func10, Tryd.ntmps10
  go_wp2_with (first
    | (go_at_call 17; have hx := HP.out _ hB0; (with_reducible refine hx.mono ?_); clear hx; rintro e w2 ⟨F1, rfl, hB1, ht1⟩; have hX1 := hX0.turned ht1; have c40 : w2.cell? ⟨w.heap.size, 0, none⟩ = some (.int .i64 lo) := hX1.b4.cell 0; have c41 : w2.cell? ⟨w.heap.size, 1, none⟩ = some (.slice A n c) := hX1.b4.cell 1; have c50 : w2.cell? ⟨w.heap.size + 1, 0, none⟩ = some (.int .i64 3) := hX1.b5.cell 0; have c51 : w2.cell? ⟨w.heap.size + 1, 1, none⟩ = some (.int .i64 nn) := hX1.b5.cell 1; have c52 : w2.cell? ⟨w.heap.size + 1, 2, none⟩ = some (.slice L m d) := hX1.b5.cell 2; have c60 : w2.cell? ⟨w.heap.size + 1 + 1, 0, none⟩ = some (.int .i64 0) := hX1.b6.cell 0; have c61 : w2.cell? ⟨w.heap.size + 1 + 1, 1, none⟩ = some (.slice none 0 0) := hX1.b6.cell 1; have f60 := hX1.b6.frozen 0; have f61 := hX1.b6.frozen 1)
    | (go_at_call 23; have hx := HR.out _ _ hB1; (with_reducible refine hx.mono ?_); clear hx; rintro e w3 ⟨A1, d1, rfl, hB2, ho2, b2⟩; have hX2 := hX1.more b2; have hX3 := hX2.more ((Below.refl _ _).alloc (Nat.le_refl _) (.cells #[.int .i64 lo, .slice A1 n d1] 29)); have hB3 := hB2.more ((Below.refl _ _).alloc (Nat.le_refl _) (.cells #[.int .i64 lo, .slice A1 n d1] 29)); have c40 : (w3.alloc (.cells #[.int .i64 lo, .slice A1 n d1] 29)).cell? ⟨w.heap.size, 0, none⟩ = some (.int .i64 lo) := hX3.b4.cell 0; have c41 : (w3.alloc (.cells #[.int .i64 lo, .slice A1 n d1] 29)).cell? ⟨w.heap.size, 1, none⟩ = some (.slice A n c) := hX3.b4.cell 1; have c50 : (w3.alloc (.cells #[.int .i64 lo, .slice A1 n d1] 29)).cell? ⟨w.heap.size + 1, 0, none⟩ = some (.int .i64 3) := hX3.b5.cell 0; have c51 : (w3.alloc (.cells #[.int .i64 lo, .slice A1 n d1] 29)).cell? ⟨w.heap.size + 1, 1, none⟩ = some (.int .i64 nn) := hX3.b5.cell 1; have c52 : (w3.alloc (.cells #[.int .i64 lo, .slice A1 n d1] 29)).cell? ⟨w.heap.size + 1, 2, none⟩ = some (.slice L m d) := hX3.b5.cell 2; have c60 : (w3.alloc (.cells #[.int .i64 lo, .slice A1 n d1] 29)).cell? ⟨w.heap.size + 1 + 1, 0, none⟩ = some (.int .i64 0) := hX3.b6.cell 0; have c61 : (w3.alloc (.cells #[.int .i64 lo, .slice A1 n d1] 29)).cell? ⟨w.heap.size + 1 + 1, 1, none⟩ = some (.slice none 0 0) := hX3.b6.cell 1; have f60 := hX3.b6.frozen 0; have f61 := hX3.b6.frozen 1))
  obtain ⟨r0, r1⟩ := res_two (u0 := lo) (A := A1) (n := n) (c := d1) hX3.b6
  have hz2 := hX1.b6.lt
  have hT3 : Turns w (w3.alloc (.cells #[.int .i64 lo, .slice A1 n d1] 29)) F F1 := (((Turns.of_below hb0 F).trans ht1).trans (Turns.of_below b2 F1)).trans (Turns.alloc _ F1)
  have hB4 := hB3.set2 (u := .int .i64 lo) (v := .slice A1 n d1) (gr := w.heap.size + 1 + 1) hX3.n6 (fun h0 ad e => by
    rcases ho2 ad e with h1 | h1
    · have := hA0.out (HA1.out h0) ad h1; omega
    · omega) (by omega) (ne_tab hX3.b6 hB3.pp.tz (by simp))
  refine bodyPost_ret (v := .tuple #[.agg #[.int .i64 lo, .slice A1 n d1], .bool true]) (by simp [results, Tryd.results10, go_sem, r0, r1]) rfl ⟨F1, A1, d1, by rw [HV.out], hB4, turns_set_far (turns_set_far hT3 (by omega)) (by omega), fun ad e => (ho2 ad e).imp id (fun h => by omega)⟩
set_option maxRecDepth 100000 in
set_option maxHeartbeats 8000000 in
theorem do_take {w0 w : World} {g : Nat} {F : Nat → Prop} {p : Pl} {A : Option Addr} {c : Nat} (h : Bo w0 w g F p p A c) (kind nn : Int) (l : List Int) (L : Option Addr) (m d : Nat) (hL : RI w0 w0.heap.size L l) (hm : m = l.length) (hm4 : m ≤ 100000) (hl : ∀ z ∈ l, InZ z) (hnn : InZ nn) (hk : kind = 1) :
    Calls Tryd.prog 10 #[.pointer (some ⟨g, 0, none⟩), plV p A c, .agg #[.int .i64 kind, .int .i64 nn, .slice L m d]] w fun e w' => ∃ F' A' c', e = .returned (.tuple #[plV ((p.take nn).1) A' c', .bool true]) ∧ Bo w0 w' g F' ((p.take nn).1) ((p.take nn).1) A' c' ∧ Turns w w' F F' ∧ ∀ ad, A' = some ad → A = some ad ∨ w.heap.size ≤ ad.block := by
  have a0 := fun w' => Tryd.poolAgg w'
  have s0 := fun w' => Tryd.poolSize w'
  have a1 := fun w' => Tryd.deedAgg w'
  have s1 := fun w' => Tryd.deedSize w'
  obtain ⟨n, hn⟩ : ∃ n, n = p.tk.length := ⟨_, rfl⟩
  obtain ⟨lo, hlo⟩ : ∃ n, n = p.lo := ⟨_, rfl⟩
  have hold : Hid (∀ W, Below w0.heap.size w0 W → RI W W.heap.size L l) := fun W hb => (hL.below hb).more hb.size
  have hoF : Hid (∀ W F' p' q' A' c', Bo w0 W g F' p' q' A' c' → 0 < m → ∀ ad, L = some ad → ¬ F' ad.block) := fun W F' p' q' A' c' hB h0 ad e hf => by
    obtain ⟨b, off, e2, hb, _⟩ := hL (by omega)
    rw [e] at e2; injection e2 with e2; subst e2
    have := hB.own _ hf; simp at this; omega
  have hb0 : Below w.heap.size w (((w.alloc (.cells #[.int .i64 lo, .slice A n c] 29)).alloc (.cells #[.int .i64 kind, .int .i64 nn, .slice L m d] 38)).alloc (.cells #[.int .i64 0, .slice none 0 0] 29)) := (((Below.refl w.heap.size w).alloc (Nat.le_refl _) _).alloc (by simp) _).alloc (by simp <;> omega) _
  have hX0 := bx_first (w := w) (F := F) #[.int .i64 lo, .slice A n c] #[.int .i64 kind, .int .i64 nn, .slice L m d] h.pp.flt
  have hB0 := h.more hb0
  have hA0 : Hid (0 < p.tk.length → ∀ ad, A = some ad → ad.block < w.heap.size) := fun h0 ad e => by
    obtain ⟨b, off, e2, hb, _⟩ := h.rf.bs.at_ h0
    rw [e] at e2; injection e2 with e2; subst e2; exact hb
  have hw0 : w0.heap.size ≤ w.heap.size := h.below.size
  subst hk
  obtain ⟨te, hte⟩ : ∃ x, x = (p.take nn).2.2 := ⟨_, rfl⟩
  obtain ⟨tl, htl⟩ : ∃ x, x = (p.take nn).2.1 := ⟨_, rfl⟩
  obtain ⟨tn, htn⟩ : ∃ x, x = (p.take nn).2.1.length := ⟨_, rfl⟩
  obtain ⟨p1, hp1⟩ : ∃ x, x = (p.take nn).1 := ⟨_, rfl⟩
  have htn4 : tn ≤ 1024 := by rw [htn]; exact Nat.le_trans (p.take_load nn).2.2 h.rf.small.2
  have hlen : p1.tk.length = n := by rw [hp1, (p.take_load nn).2.1, hn]
  have hlo1 : p1.lo = lo := by rw [hp1, (p.take_load nn).1, hlo]
  have HP : Hid (∀ W, Bo w0 W g F p p A c → Calls Tryd.prog 12 #[.pointer (some ⟨g, 0, none⟩), .int .i64 nn] W fun e w' => ∃ F' B d1, e = .returned (.tuple #[.slice B tn d1, .int .i64 te]) ∧ Bo w0 w' g F' p1 p A c ∧ Turns W w' F F' ∧ Hid (RI w' w'.heap.size B tl)) := fun W hB => (ptake_any hB.pp nn hnn).mono fun e w' hh => by
    obtain ⟨F', B, d1, he, hp, ht, hr, _, _⟩ := hh
    rw [← hte, ← htn] at he
    rw [← hp1] at hp
    rw [← htl] at hr
    exact ⟨F', B, d1, he, hB.prog hp ht, ht, hr⟩
  have HR : Hid (∀ W F', Bo w0 W g F' p1 p A c → Calls Tryd.prog 21 #[.agg #[.int .i64 lo, .slice A n c], .int .i64 nn] W fun e w' => ∃ A' c' B d2, e = .returned (.tuple #[.agg #[.int .i64 lo, .slice A' n c'], .slice B tn d2, .int .i64 te]) ∧ Bo w0 w' g F' p1 p1 A' c' ∧ (∀ ad, A' = some ad → A = some ad ∨ W.heap.size ≤ ad.block) ∧ Hid (RI w' w'.heap.size B tl) ∧ Below W.heap.size W w') := fun W F' hB => by
    have h1 := rptake_any p nn A c W hB.rf
    unfold plV at h1
    rw [← hn, ← hlo] at h1
    refine h1.mono fun e w' hh => ?_
    obtain ⟨v, B, d2, he, ⟨A', c', ev, hpl, ho⟩, hr, hb⟩ := hh
    rw [← hte, ← htn] at he
    rw [← hp1] at hpl ev
    rw [← htl] at hr
    refine ⟨A', c', B, d2, ?_, hB.ref hpl hb ho (by rw [hlen, hn]), ho, hr, hb⟩
    rw [he, ev]; unfold plV; rw [hlen, hlo1]
  have HI : Hid (∀ W (B C : Option Addr) (d1 d2 : Nat), RI W W.heap.size B tl → RI W W.heap.size C tl → Calls Tryd.prog 20 #[.slice B tn d1, .slice C tn d2] W fun e w' => e = .returned (.bool true) ∧ Below W.heap.size W w') := fun W B C d1 d2 h1 h2 => intsq_any tl B C tn d1 d2 _ W (by show tn = tl.length; rw [htn, htl]) h1 h2 (by omega)
  have HV : Hid (∀ A' c', plV p1 A' c' = .agg #[.int .i64 lo, .slice A' n c']) := fun A' c' => by unfold plV; rw [hlen, hlo1]
  have HA1 : Hid (0 < p1.tk.length → 0 < p.tk.length) := fun h0 => by rw [hlen] at h0; omega
  rw [← hp1]
  unfold plV at *
  rw [← hn, ← hlo]
  clear h hL hm hl hnn hn hlo hte htl htn hp1 hlen hlo1
  go_enter Tryd.func10, Tryd.ntmps10
  go_wp2_with (first
    | (go_at_call 12; have hx := HP.out _ hB0; (with_reducible refine hx.mono ?_); clear hx; rintro e w2 ⟨F1, B1, e1, rfl, hB1, ht1, q1⟩; have hX1 := hX0.turned ht1; have c40 : w2.cell? ⟨w.heap.size, 0, none⟩ = some (.int .i64 lo) := hX1.b4.cell 0; have c41 : w2.cell? ⟨w.heap.size, 1, none⟩ = some (.slice A n c) := hX1.b4.cell 1; have c50 : w2.cell? ⟨w.heap.size + 1, 0, none⟩ = some (.int .i64 1) := hX1.b5.cell 0; have c51 : w2.cell? ⟨w.heap.size + 1, 1, none⟩ = some (.int .i64 nn) := hX1.b5.cell 1; have c52 : w2.cell? ⟨w.heap.size + 1, 2, none⟩ = some (.slice L m d) := hX1.b5.cell 2; have c60 : w2.cell? ⟨w.heap.size + 1 + 1, 0, none⟩ = some (.int .i64 0) := hX1.b6.cell 0; have c61 : w2.cell? ⟨w.heap.size + 1 + 1, 1, none⟩ = some (.slice none 0 0) := hX1.b6.cell 1; have f60 := hX1.b6.frozen 0; have f61 := hX1.b6.frozen 1)
    | (go_at_call 21; have hx := HR.out _ _ hB1; (with_reducible refine hx.mono ?_); clear hx; rintro e w3 ⟨A1, d1, B2, e2, rfl, hB2, ho2, q2, b2⟩; have hX2 := hX1.more b2; have hX3 := hX2.more ((Below.refl _ _).alloc (Nat.le_refl _) (.cells #[.int .i64 lo, .slice A1 n d1] 29)); have hB3 := hB2.more ((Below.refl _ _).alloc (Nat.le_refl _) (.cells #[.int .i64 lo, .slice A1 n d1] 29)); have c40 : (w3.alloc (.cells #[.int .i64 lo, .slice A1 n d1] 29)).cell? ⟨w.heap.size, 0, none⟩ = some (.int .i64 lo) := hX3.b4.cell 0; have c41 : (w3.alloc (.cells #[.int .i64 lo, .slice A1 n d1] 29)).cell? ⟨w.heap.size, 1, none⟩ = some (.slice A n c) := hX3.b4.cell 1; have c50 : (w3.alloc (.cells #[.int .i64 lo, .slice A1 n d1] 29)).cell? ⟨w.heap.size + 1, 0, none⟩ = some (.int .i64 1) := hX3.b5.cell 0; have c51 : (w3.alloc (.cells #[.int .i64 lo, .slice A1 n d1] 29)).cell? ⟨w.heap.size + 1, 1, none⟩ = some (.int .i64 nn) := hX3.b5.cell 1; have c52 : (w3.alloc (.cells #[.int .i64 lo, .slice A1 n d1] 29)).cell? ⟨w.heap.size + 1, 2, none⟩ = some (.slice L m d) := hX3.b5.cell 2; have c60 : (w3.alloc (.cells #[.int .i64 lo, .slice A1 n d1] 29)).cell? ⟨w.heap.size + 1 + 1, 0, none⟩ = some (.int .i64 0) := hX3.b6.cell 0; have c61 : (w3.alloc (.cells #[.int .i64 lo, .slice A1 n d1] 29)).cell? ⟨w.heap.size + 1 + 1, 1, none⟩ = some (.slice none 0 0) := hX3.b6.cell 1; have f60 := hX3.b6.frozen 0; have f61 := hX3.b6.frozen 1))
  have hz2 := hX1.b6.lt
  have hz3 := hX2.b6.lt
  have b34 : Below w3.heap.size w3 (w3.alloc (.cells #[.int .i64 lo, .slice A1 n d1] 29)) := (Below.refl _ _).alloc (Nat.le_refl _) _
  have hB4 := hB3.more (Below.refl _ _).drew
  have hX4 := hX3.more (Below.refl _ _).drew
  have hK4 : Blk ((w3.alloc (.cells #[.int .i64 lo, .slice A1 n d1] 29)).drew) w3.heap.size 29 #[.int .i64 lo, .slice A1 n d1] := Blk.drew (Blk.new w3 _ _)
  have hS0 := range_blk hK4
  have hr2 := ri_up (ri_up q2.out b34) (Below.refl _ _).drew
  have hr1 := ri_up (ri_up (ri_up q1.out b2) b34) (Below.refl _ _).drew
  refine region_T (fun W => W.rangeAt w3.heap.size 0 [.int .i64 lo, .slice A1 n d1]) (fun i => decide (10 ≤ i)) (by kernel_rfl) ?_
  refine any_asT rfl (listed' := #[false, false, false, false, false, false, false, false, false, false, false]) (by kernel_rfl) ?_
  refine take_d (i := 0) (.agg #[.int .i64 lo, .slice A1 n d1]) 38 rfl (by kernel_rfl) (by kernel_rfl) (by kernel_rfl) (by kernel_rfl) rfl (by kernel_rfl) (by kernel_rfl) (fun V hV => load_run 29 (.tmp 10) w3.heap.size 0 [.int .i64 lo, .slice A1 n d1] _ (by kernel_rfl) (by kernel_rfl) hV Tryd.underlying29 rfl (by kernel_rfl) _ rfl) hS0 (fun _ _ _ h => h) ?_
  simp only [Act.put, List.setIfInBounds_toArray, List.set_cons_zero, List.set_cons_succ]
  refine take_d (i := 1) (.slice B1 tn e1) 39 rfl (by kernel_rfl) (by kernel_rfl) (by kernel_rfl) (by kernel_rfl) rfl (by kernel_rfl) (by kernel_rfl) (fun V hV => by kernel_rfl) hS0 (fun _ _ _ h => h) ?_
  simp only [Act.put, List.setIfInBounds_toArray, List.set_cons_zero, List.set_cons_succ]
  refine take_d (i := 2) (.slice B2 tn e2) 40 rfl (by kernel_rfl) (by kernel_rfl) (by kernel_rfl) (by kernel_rfl) rfl (by kernel_rfl) (by kernel_rfl) (fun V hV => by kernel_rfl) hS0 (fun _ _ _ h => h) ?_
  simp only [Act.put, List.setIfInBounds_toArray, List.set_cons_zero, List.set_cons_succ]
  refine any_comes (i := 3) (by kernel_rfl) ?_
  refine op_enter 20 #[.slice B1 tn e1, .slice B2 tn e2] (some 41) rfl (by kernel_rfl) (by kernel_rfl) (by kernel_rfl) ((HI.out _ B1 B2 e1 e2 hr1 hr2).mono ?_)
  rintro e w5 ⟨rfl, b5⟩
  have hB5 := hB4.more b5
  have hX5 := hX4.more b5
  have hK5 := hK4.below b5 hK4.lt
  have hS1 := range_blk hK5
  refine ⟨_, rfl, hS1, ?_⟩
  simp only [Act.put, List.setIfInBounds_toArray, List.set_cons_zero, List.set_cons_succ]
  refine take_d (i := 4) (.bool true) 42 rfl (by kernel_rfl) (by kernel_rfl) (by kernel_rfl) (by kernel_rfl) rfl (by kernel_rfl) (by kernel_rfl) (fun V hV => by kernel_rfl) hS1 (fun _ _ _ h => h) ?_
  simp only [Act.put, List.setIfInBounds_toArray, List.set_cons_zero, List.set_cons_succ]
  refine take_d (i := 5) (.int .i64 te) 43 rfl (by kernel_rfl) (by kernel_rfl) (by kernel_rfl) (by kernel_rfl) rfl (by kernel_rfl) (by kernel_rfl) (fun V hV => by kernel_rfl) hS1 (fun _ _ _ h => h) ?_
  simp only [Act.put, List.setIfInBounds_toArray, List.set_cons_zero, List.set_cons_succ]
  refine take_d (i := 6) (.int .i64 te) 44 rfl (by kernel_rfl) (by kernel_rfl) (by kernel_rfl) (by kernel_rfl) rfl (by kernel_rfl) (by kernel_rfl) (fun V hV => by kernel_rfl) hS1 (fun _ _ _ h => h) ?_
  simp only [Act.put, List.setIfInBounds_toArray, List.set_cons_zero, List.set_cons_succ]
  refine take_d (i := 7) (.bool true) 45 rfl (by kernel_rfl) (by kernel_rfl) (by kernel_rfl) (by kernel_rfl) rfl (by kernel_rfl) (by kernel_rfl) (fun V hV => eeql_run (.tmp 43) (.tmp 44) te te (by kernel_rfl) (by kernel_rfl) (by kernel_rfl) true (by simp)) hS1 (fun _ _ _ h => h) ?_
  simp only [Act.put, List.setIfInBounds_toArray, List.set_cons_zero, List.set_cons_succ]
  refine take_d (i := 8) (.bool true) 46 rfl (by kernel_rfl) (by kernel_rfl) (by kernel_rfl) (by kernel_rfl) rfl (by kernel_rfl) (by kernel_rfl) (fun V hV => by kernel_rfl) hS1 (fun _ _ _ h => h) ?_
  simp only [Act.put, List.setIfInBounds_toArray, List.set_cons_zero, List.set_cons_succ]
  have hne : w3.heap.size ≠ w.heap.size + 1 + 1 := by omega
  have N0 : Blk ((w5.setCell ⟨w.heap.size + 1 + 1, 0, none⟩ (.int .i64 lo)).setCell ⟨w.heap.size + 1 + 1, 1, none⟩ (.slice A1 n d1)) w3.heap.size 29 #[.int .i64 lo, .slice A1 n d1] := Blk.far (p := ⟨w.heap.size + 1 + 1, 1, none⟩) (Blk.far (p := ⟨w.heap.size + 1 + 1, 0, none⟩) hK5 hne _) hne _
  refine any_comes (i := 9) (by kernel_rfl) (op_store2 (w.heap.size + 1 + 1) lo A1 n d1 (.tmp 6) (.tmp 38) rfl (by kernel_rfl) (by kernel_rfl) rfl (by kernel_rfl) (by kernel_rfl) hX5.b6 ⟨range_blk N0, ?_⟩)
  refine any_left (by kernel_rfl) ?_
  refine wpAny_tail 10 (by kernel_rfl) (by kernel_rfl) ?_
  obtain ⟨r0, r1⟩ := res_two (u0 := lo) (A := A1) (n := n) (c := d1) hX5.b6
  have hT5 : Turns w w5 F F1 := (((((Turns.of_below hb0 F).trans ht1).trans (Turns.of_below b2 F1)).trans (Turns.alloc _ F1)).trans (Turns.drew F1)).trans (Turns.of_below b5 F1)
  have hB6 := hB5.set2 (u := .int .i64 lo) (v := .slice A1 n d1) (gr := w.heap.size + 1 + 1) hX5.n6 (fun h0 ad e => by
    rcases ho2 ad e with h1 | h1
    · have := hA0.out (HA1.out h0) ad h1; omega
    · omega) (by omega) (ne_tab hX5.b6 hB5.pp.tz (by simp))
  have HB6 := Lib.hid hB6
  clear hB6 hB5 hB4 hX5 hX4 hK5 hK4 hS1 hS0 N0
  go_wp2
  refine bodyPost_ret (v := .tuple #[.agg #[.int .i64 lo, .slice A1 n d1], .bool true]) (by simp [results, Tryd.results10, go_sem, r0, r1]) rfl ⟨F1, A1, d1, by rw [HV.out], HB6.out, turns_set_far (turns_set_far hT5 (by omega)) (by omega), fun ad e => (ho2 ad e).imp id (fun h => by omega)⟩
set_option maxRecDepth 100000 in
set_option maxHeartbeats 8000000 in
theorem do_has {w0 w : World} {g : Nat} {F : Nat → Prop} {p : Pl} {A : Option Addr} {c : Nat} (h : Bo w0 w g F p p A c) (kind nn : Int) (l : List Int) (L : Option Addr) (m d : Nat) (hL : RI w0 w0.heap.size L l) (hm : m = l.length) (hm4 : m ≤ 100000) (hl : ∀ z ∈ l, InZ z) (hnn : InZ nn) (hk1 : kind ≠ 1) (hk2 : kind ≠ 2) (hk3 : kind ≠ 3) :
    Calls Tryd.prog 10 #[.pointer (some ⟨g, 0, none⟩), plV p A c, .agg #[.int .i64 kind, .int .i64 nn, .slice L m d]] w fun e w' => ∃ F' A' c', e = .returned (.tuple #[plV (p) A' c', .bool true]) ∧ Bo w0 w' g F' (p) (p) A' c' ∧ Turns w w' F F' ∧ ∀ ad, A' = some ad → A = some ad ∨ w.heap.size ≤ ad.block := by
  have a0 := fun w' => Tryd.poolAgg w'
  have s0 := fun w' => Tryd.poolSize w'
  have a1 := fun w' => Tryd.deedAgg w'
  have s1 := fun w' => Tryd.deedSize w'
  obtain ⟨n, hn⟩ : ∃ n, n = p.tk.length := ⟨_, rfl⟩
  obtain ⟨lo, hlo⟩ : ∃ n, n = p.lo := ⟨_, rfl⟩
  have hold : Hid (∀ W, Below w0.heap.size w0 W → RI W W.heap.size L l) := fun W hb => (hL.below hb).more hb.size
  have hoF : Hid (∀ W F' p' q' A' c', Bo w0 W g F' p' q' A' c' → 0 < m → ∀ ad, L = some ad → ¬ F' ad.block) := fun W F' p' q' A' c' hB h0 ad e hf => by
    obtain ⟨b, off, e2, hb, _⟩ := hL (by omega)
    rw [e] at e2; injection e2 with e2; subst e2
    have := hB.own _ hf; simp at this; omega
  have hb0 : Below w.heap.size w (((w.alloc (.cells #[.int .i64 lo, .slice A n c] 29)).alloc (.cells #[.int .i64 kind, .int .i64 nn, .slice L m d] 38)).alloc (.cells #[.int .i64 0, .slice none 0 0] 29)) := (((Below.refl w.heap.size w).alloc (Nat.le_refl _) _).alloc (by simp) _).alloc (by simp <;> omega) _
  have hX0 := bx_first (w := w) (F := F) #[.int .i64 lo, .slice A n c] #[.int .i64 kind, .int .i64 nn, .slice L m d] h.pp.flt
  have hB0 := h.more hb0
  have hA0 : Hid (0 < p.tk.length → ∀ ad, A = some ad → ad.block < w.heap.size) := fun h0 ad e => by
    obtain ⟨b, off, e2, hb, _⟩ := h.rf.bs.at_ h0
    rw [e] at e2; injection e2 with e2; subst e2; exact hb
  have hw0 : w0.heap.size ≤ w.heap.size := h.below.size
  obtain ⟨hv, hhv⟩ : ∃ x, x = p.has nn := ⟨_, rfl⟩
  have HP : Hid (∀ W, Bo w0 W g F p p A c → Calls Tryd.prog 18 #[.pointer (some ⟨g, 0, none⟩), .int .i64 nn] W fun e w' => e = .returned (.bool hv) ∧ Below W.heap.size W w') := fun W hB => by rw [hhv]; exact phas_any hB.pp nn hnn
  have HR : Hid (∀ W, Bo w0 W g F p p A c → Calls Tryd.prog 24 #[.agg #[.int .i64 lo, .slice A n c], .int .i64 nn] W fun e w' => e = .returned (.bool hv) ∧ Below W.heap.size W w') := fun W hB => by
    have h1 := rphas_any p A c nn W hB.rf hnn
    unfold plV at h1
    rw [← hn, ← hlo, ← hhv] at h1
    exact h1
  unfold plV at *
  rw [← hn, ← hlo]
  have e1 : (kind == 1) = false := by simpa using hk1
  have e2 : (kind == 2) = false := by simpa using hk2
  have e3 : (kind == 3) = false := by simpa using hk3
  have e4 : decide (kind = 1) = false := decide_eq_false hk1
  have e5 : decide (kind = 2) = false := decide_eq_false hk2
  have e6 : decide (kind = 3) = false := decide_eq_false hk3
  clear h hL hm hl hnn hn hlo hhv hk1 hk2 hk3
  go_enter Tryd.func10, Tryd.ntmps10
  go_wp2
  have hB4 := hB0.more (Below.refl _ _).drew
  have hX4 := hX0.more (Below.refl _ _).drew
  have hS0 : ((((w.alloc (.cells #[.int .i64 lo, .slice A n c] 29)).alloc (.cells #[.int .i64 kind, .int .i64 nn, .slice L m d] 38)).alloc (.cells #[.int .i64 0, .slice none 0 0] 29)).drew).rangeAt w.heap.size 0 [.int .i64 lo, .slice A n c] ∧ ((((w.alloc (.cells #[.int .i64 lo, .slice A n c] 29)).alloc (.cells #[.int .i64 kind, .int .i64 nn, .slice L m d] 38)).alloc (.cells #[.int .i64 0, .slice none 0 0] 29)).drew).cell? ⟨w.heap.size + 1, 1, none⟩ = some (.int .i64 nn) := ⟨range_blk hX4.b4, hX4.b5.cell 1⟩
  refine region_T (fun W => W.rangeAt w.heap.size 0 [.int .i64 lo, .slice A n c] ∧ W.cell? ⟨w.heap.size + 1, 1, none⟩ = some (.int .i64 nn)) (fun i => decide (11 ≤ i)) (by kernel_rfl) ?_
  refine any_asT rfl (listed' := #[false, false, false, false, false, false, false, false, false, false, false, false]) (by kernel_rfl) ?_
  refine take_d (i := 0) (.agg #[.int .i64 lo, .slice A n c]) 81 rfl (by kernel_rfl) (by kernel_rfl) (by kernel_rfl) (by kernel_rfl) rfl (by kernel_rfl) (by kernel_rfl) (fun V hV => load_run 29 (.tmp 4) w.heap.size 0 [.int .i64 lo, .slice A n c] _ (by kernel_rfl) (by kernel_rfl) hV.1 Tryd.underlying29 rfl (by kernel_rfl) _ rfl) hS0 (fun _ _ _ h => h) ?_
  simp only [Act.put, List.setIfInBounds_toArray, List.set_cons_zero, List.set_cons_succ]
  refine take_d (i := 1) (.pointer (some ⟨g, 0, none⟩)) 82 rfl (by kernel_rfl) (by kernel_rfl) (by kernel_rfl) (by kernel_rfl) rfl (by kernel_rfl) (by kernel_rfl) (fun V hV => by kernel_rfl) hS0 (fun _ _ _ h => h) ?_
  simp only [Act.put, List.setIfInBounds_toArray, List.set_cons_zero, List.set_cons_succ]
  refine take_d (i := 2) (.pointer (some ⟨w.heap.size + 1, 1, none⟩)) 83 rfl (by kernel_rfl) (by kernel_rfl) (by kernel_rfl) (by kernel_rfl) rfl (by kernel_rfl) (by kernel_rfl) (fun V hV => by kernel_rfl) hS0 (fun _ _ _ h => h) ?_
  simp only [Act.put, List.setIfInBounds_toArray, List.set_cons_zero, List.set_cons_succ]
  refine take_d (i := 3) (.int .i64 nn) 84 rfl (by kernel_rfl) (by kernel_rfl) (by kernel_rfl) (by kernel_rfl) rfl (by kernel_rfl) (by kernel_rfl) (fun V hV => cell_run 3 (.tmp 83) ⟨w.heap.size + 1, 1, none⟩ (.int .i64 nn) _ (by kernel_rfl) (by kernel_rfl) hV.2 Tryd.underlying3 rfl (by kernel_rfl)) hS0 (fun _ _ _ h => h) ?_
  simp only [Act.put, List.setIfInBounds_toArray, List.set_cons_zero, List.set_cons_succ]
  refine take_d (i := 5) (.agg #[.int .i64 lo, .slice A n c]) 86 rfl (by kernel_rfl) (by kernel_rfl) (by kernel_rfl) (by kernel_rfl) rfl (by kernel_rfl) (by kernel_rfl) (fun V hV => load_run 29 (.tmp 4) w.heap.size 0 [.int .i64 lo, .slice A n c] _ (by kernel_rfl) (by kernel_rfl) hV.1 Tryd.underlying29 rfl (by kernel_rfl) _ rfl) hS0 (fun _ _ _ h => h) ?_
  simp only [Act.put, List.setIfInBounds_toArray, List.set_cons_zero, List.set_cons_succ]
  refine take_d (i := 6) (.pointer (some ⟨w.heap.size + 1, 1, none⟩)) 87 rfl (by kernel_rfl) (by kernel_rfl) (by kernel_rfl) (by kernel_rfl) rfl (by kernel_rfl) (by kernel_rfl) (fun V hV => by kernel_rfl) hS0 (fun _ _ _ h => h) ?_
  simp only [Act.put, List.setIfInBounds_toArray, List.set_cons_zero, List.set_cons_succ]
  refine take_d (i := 7) (.int .i64 nn) 88 rfl (by kernel_rfl) (by kernel_rfl) (by kernel_rfl) (by kernel_rfl) rfl (by kernel_rfl) (by kernel_rfl) (fun V hV => cell_run 3 (.tmp 87) ⟨w.heap.size + 1, 1, none⟩ (.int .i64 nn) _ (by kernel_rfl) (by kernel_rfl) hV.2 Tryd.underlying3 rfl (by kernel_rfl)) hS0 (fun _ _ _ h => h) ?_
  simp only [Act.put, List.setIfInBounds_toArray, List.set_cons_zero, List.set_cons_succ]
  refine any_comes (i := 4) (by kernel_rfl) ?_
  refine op_enter 18 #[.pointer (some ⟨g, 0, none⟩), .int .i64 nn] (some 85) rfl (by kernel_rfl) (by kernel_rfl) (by kernel_rfl) ((HP.out _ hB4).mono ?_)
  rintro e w5 ⟨rfl, b5⟩
  have hB_w5 := hB4.more b5
  have hX_w5 := hX4.more b5
  have hS_w5 : w5.rangeAt w.heap.size 0 [.int .i64 lo, .slice A n c] ∧ w5.cell? ⟨w.heap.size + 1, 1, none⟩ = some (.int .i64 nn) := ⟨range_blk hX_w5.b4, hX_w5.b5.cell 1⟩
  refine ⟨_, rfl, hS_w5, ?_⟩
  simp only [Act.put, List.setIfInBounds_toArray, List.set_cons_zero, List.set_cons_succ]
  refine any_comes (i := 8) (by kernel_rfl) ?_
  refine op_enter 24 #[.agg #[.int .i64 lo, .slice A n c], .int .i64 nn] (some 89) rfl (by kernel_rfl) (by kernel_rfl) (by kernel_rfl) ((HR.out _ hB_w5).mono ?_)
  rintro e w6 ⟨rfl, b6⟩
  have hB_w6 := hB_w5.more b6
  have hX_w6 := hX_w5.more b6
  have hS_w6 : w6.rangeAt w.heap.size 0 [.int .i64 lo, .slice A n c] ∧ w6.cell? ⟨w.heap.size + 1, 1, none⟩ = some (.int .i64 nn) := ⟨range_blk hX_w6.b4, hX_w6.b5.cell 1⟩
  refine ⟨_, rfl, hS_w6, ?_⟩
  simp only [Act.put, List.setIfInBounds_toArray, List.set_cons_zero, List.set_cons_succ]
  refine take_d (i := 9) (.bool true) 90 rfl (by kernel_rfl) (by kernel_rfl) (by kernel_rfl) (by kernel_rfl) rfl (by kernel_rfl) (by kernel_rfl) (fun V hV => bbeql_run hv (.tmp 85) (.tmp 89) (by kernel_rfl) (by kernel_rfl) (by kernel_rfl)) hS_w6 (fun _ _ _ h => h) ?_
  simp only [Act.put, List.setIfInBounds_toArray, List.set_cons_zero, List.set_cons_succ]
  have N4 : Blk ((w6.setCell ⟨w.heap.size + 1 + 1, 0, none⟩ (.int .i64 lo)).setCell ⟨w.heap.size + 1 + 1, 1, none⟩ (.slice A n c)) w.heap.size 29 #[.int .i64 lo, .slice A n c] := Blk.far (p := ⟨w.heap.size + 1 + 1, 1, none⟩) (Blk.far (p := ⟨w.heap.size + 1 + 1, 0, none⟩) hX_w6.b4 (show w.heap.size ≠ w.heap.size + 1 + 1 by omega) _) (show w.heap.size ≠ w.heap.size + 1 + 1 by omega) _
  have N5 : Blk ((w6.setCell ⟨w.heap.size + 1 + 1, 0, none⟩ (.int .i64 lo)).setCell ⟨w.heap.size + 1 + 1, 1, none⟩ (.slice A n c)) (w.heap.size + 1) 38 #[.int .i64 kind, .int .i64 nn, .slice L m d] := Blk.far (p := ⟨w.heap.size + 1 + 1, 1, none⟩) (Blk.far (p := ⟨w.heap.size + 1 + 1, 0, none⟩) hX_w6.b5 (show w.heap.size + 1 ≠ w.heap.size + 1 + 1 by omega) _) (show w.heap.size + 1 ≠ w.heap.size + 1 + 1 by omega) _
  refine any_comes (i := 10) (by kernel_rfl) (op_store2 (w.heap.size + 1 + 1) lo A n c (.tmp 6) (.tmp 81) rfl (by kernel_rfl) (by kernel_rfl) rfl (by kernel_rfl) (by kernel_rfl) hX_w6.b6 ⟨⟨range_blk N4, N5.cell 1⟩, ?_⟩)
  refine any_left (by kernel_rfl) ?_
  refine wpAny_tail 11 (by kernel_rfl) (by kernel_rfl) ?_
  obtain ⟨r0, r1⟩ := res_two (u0 := lo) (A := A) (n := n) (c := c) hX_w6.b6
  have hT5 : Turns w w6 F F := (((Turns.of_below hb0 F).trans (Turns.drew F)).trans (Turns.of_below b5 F)).trans (Turns.of_below b6 F)
  have hB6 := hB_w6.set2 (u := .int .i64 lo) (v := .slice A n c) (gr := w.heap.size + 1 + 1) hX_w6.n6 (fun h0 ad e => by have := hA0.out h0 ad e; omega) (by omega) (ne_tab hX_w6.b6 hB_w6.pp.tz (by simp))
  have HB6 := Lib.hid hB6
  clear hB6 hB_w6 hB_w5 hB4 hX_w6 hX_w5 hX4 hS_w6 hS_w5 hS0 N4 N5
  go_wp2
  refine bodyPost_ret (v := .tuple #[.agg #[.int .i64 lo, .slice A n c], .bool true]) (by simp [results, Tryd.results10, go_sem, r0, r1]) rfl ⟨F, A, c, rfl, HB6.out, turns_set_far (turns_set_far hT5 (by omega)) (by omega), fun ad e => .inl e⟩
theorem do11_any {w0 w : World} {g : Nat} {F : Nat → Prop} {p : Pl} {A : Option Addr} {c : Nat} (h : Bo w0 w g F p p A c) (kind nn : Int) (l : List Int) (L : Option Addr) (m d : Nat) (hL : RI w0 w0.heap.size L l) (hm : m = l.length) (hm4 : m ≤ 100000) (hl : ∀ z ∈ l, InZ z) (hnn : InZ nn) :
    Calls Tryd.prog 10 #[.pointer (some ⟨g, 0, none⟩), plV p A c, .agg #[.int .i64 kind, .int .i64 nn, .slice L m d]] w fun e w' => ∃ F' A' c', e = .returned (.tuple #[plV (stepP p kind nn l) A' c', .bool true]) ∧ Bo w0 w' g F' (stepP p kind nn l) (stepP p kind nn l) A' c' ∧ Turns w w' F F' ∧ ∀ ad, A' = some ad → A = some ad ∨ w.heap.size ≤ ad.block := by
  unfold stepP
  by_cases h1 : kind = 1
  · rw [if_pos h1]; exact do_take h kind nn l L m d hL hm hm4 hl hnn h1
  · rw [if_neg h1]
    by_cases h2 : kind = 2
    · rw [if_pos h2]; exact do_give h kind nn l L m d hL hm hm4 hl hnn h2
    · rw [if_neg h2]
      by_cases h3 : kind = 3
      · rw [if_pos h3]; exact do_mark h kind nn l L m d hL hm hm4 hl hnn h3
      · rw [if_neg h3]; exact do_has h kind nn l L m d hL hm hm4 hl hnn h1 h2 h3
end Go.Proofs.YtibaaideleinhaaDoor
