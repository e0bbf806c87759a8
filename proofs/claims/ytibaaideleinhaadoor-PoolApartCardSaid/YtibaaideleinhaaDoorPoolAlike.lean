/- The walk of the law's alike (layer 11): a program's pool and a reference's that are the same. -/
import Derived.Test.YtibaaideleinhaaDoorPoolProg
import Derived.Test.YtibaaideleinhaaDoorPoolRList
import Derived.Test.YtibaaideleinhaaDoorPoolRTake
import Derived.Test.YtibaaideleinhaaDoorIntsEq
set_option linter.unusedVariables false
namespace Go.Proofs.YtibaaideleinhaaDoor
open Go.RowKit

/-- The program's pool p, the reference's q, and all of the program's own lies behind w0. -/
structure Bo (w0 W : World) (g : Nat) (F : Nat → Prop) (p q : Pl) (A : Option Addr) (c : Nat) : Prop where
  pp : PPool W g F p
  rf : PlAt W q A c
  ap : 0 < q.tk.length → ∀ ad, A = some ad → ¬ F ad.block
  own : ∀ k, F k → w0.heap.size ≤ k
  below : Below w0.heap.size w0 W
theorem PPool.below {w w' : World} {g : Nat} {F : Nat → Prop} {p : Pl} (h : PPool w g F p) (hb : Below w.heap.size w w') : PPool w' g F p := h.turns (Turns.of_below hb (fun _ => False)) (fun _ _ h => h) (fun h => h)
section
variable {w0 W W' : World} {g : Nat} {F F' : Nat → Prop} {p p' q q' : Pl} {A A' : Option Addr} {c c' : Nat}
theorem Bo.more (h : Bo w0 W g F p q A c) (hb : Below W.heap.size W W') : Bo w0 W' g F p q A c := ⟨h.pp.below hb, h.rf.up hb, h.ap, h.own, h.below.trans (hb.mono h.below.size)⟩
/-- The program's pool has changed. -/
theorem Bo.prog (h : Bo w0 W g F p q A c) (hp : PPool W' g F' p') (ht : Turns W W' F F') : Bo w0 W' g F' p' q A c := by
  have hlt : 0 < q.tk.length → ∀ ad, A = some ad → ad.block < W.heap.size := fun h0 ad e => by
    obtain ⟨b, off, e2, hb, _⟩ := h.rf.bs.at_ h0
    rw [e] at e2; injection e2 with e2; subst e2; exact hb
  refine ⟨hp, ⟨?_, h.rf.cap, h.rf.small⟩, fun h0 ad e hf => ?_, fun k hk => ?_, h.below.trans (ht.below h.own h.below.size)⟩
  · rcases Nat.eq_zero_or_pos q.tk.length with h0 | h0
    · exact ⟨h.rf.bs.1, fun hh => by omega⟩
    · exact (Reads.turns h.rf.bs (Nat.le_refl _) ht (fun ad e => h.ap h0 ad e)).more ht.size
  · rcases ht.foot _ hf with h1 | h1
    · exact h.ap h0 ad e h1
    · have := hlt h0 ad e; omega
  · rcases ht.foot _ hk with h1 | h1
    · exact h.own k h1
    · have := h.below.size; omega
/-- The reference's pool is another. -/
theorem Bo.ref (h : Bo w0 W g F p q A c) (hr : PlAt W' q' A' c') (hb : Below W.heap.size W W') (ho : ∀ ad, A' = some ad → A = some ad ∨ W.heap.size ≤ ad.block) (hl : q'.tk.length = q.tk.length) : Bo w0 W' g F p q' A' c' := by
  refine ⟨h.pp.below hb, hr, fun h0 ad e hf => ?_, h.own, h.below.trans (hb.mono h.below.size)⟩
  rcases ho ad e with h1 | h1
  · exact h.ap (by omega) ad h1 hf
  · have := h.pp.flt _ hf; omega
end
theorem beql_run {o : Oper} {a : Act} {w : World} (x y : Operand) (p q : Int) (ho : o.op = .binOp .eql 3 x y 3) (hx : a.eval x = .int .i64 p) (hy : a.eval y = .int .i64 q) (v : Bool) (hv : (p == q) = v) :
    (execOp a.eval o).run Tryd.prog w = .ok (.value (.bool v)) w := by
  subst hv
  have hv : (binOp .eql 3 (.int .i64 p) (.int .i64 q)).run Tryd.prog w = .ok (.bool (p == q)) w := by simp [go_sem]
  unfold execOp
  simp only [ho, hx, hy, Sem.run_bind, guard_intP, Result.andThen_ok, hv, Sem.run_pure]
set_option maxRecDepth 100000 in
set_option maxHeartbeats 8000000 in
theorem alike11_any {w0 w : World} {g : Nat} {F : Nat → Prop} {p : Pl} {A : Option Addr} {c : Nat} (h : Bo w0 w g F p p A c) :
    Calls Tryd.prog 11 #[.pointer (some ⟨g, 0, none⟩), plV p A c] w fun e w' => e = .returned (.bool true) ∧ Below w.heap.size w w' := by
  obtain ⟨n, hn⟩ : ∃ n, n = p.tk.length := ⟨_, rfl⟩
  obtain ⟨lo, hlo⟩ : ∃ n, n = p.lo := ⟨_, rfl⟩
  obtain ⟨fl, hfl⟩ : ∃ x : Int, x = ((p.list false).length : Int) := ⟨_, rfl⟩
  obtain ⟨tl, htl⟩ : ∃ x, x = (p.list true).length := ⟨_, rfl⟩
  have htl4 : tl ≤ 100000 := by have := p.list_length true; have := h.rf.small.2; omega
  have HFp : Hid (∀ W, Bo w0 W g F p p A c → Calls Tryd.prog 14 #[.pointer (some ⟨g, 0, none⟩)] W fun e w' => e = .returned (.int .i64 fl) ∧ Below W.heap.size W w') := fun W h => by rw [hfl]; exact pfree_any h.pp
  have HFr : Hid (∀ W, Bo w0 W g F p p A c → Calls Tryd.prog 25 #[.agg #[.int .i64 lo, .slice A n c]] W fun e w' => e = .returned (.int .i64 fl) ∧ Below W.heap.size W w') := fun W h => by rw [hfl, hlo, hn]; exact rpfree_any p A c W h.rf
  have HTp : Hid (∀ W, Bo w0 W g F p p A c → Calls Tryd.prog 15 #[.pointer (some ⟨g, 0, none⟩)] W fun e w' => ∃ B d, e = .returned (.slice B tl d) ∧ Hid (RI w' w'.heap.size B (p.list true)) ∧ Below W.heap.size W w') := fun W h => (ptaken_any h.pp).mono fun e w' hh => by
    obtain ⟨B, d, he, r1, _, _, b1⟩ := hh
    exact ⟨B, d, by rw [he, htl], r1, b1⟩
  have HLr : Hid (∀ W, Bo w0 W g F p p A c → Calls Tryd.prog 26 #[.agg #[.int .i64 lo, .slice A n c]] W fun e w' => ∃ B d, e = .returned (.slice B tl d) ∧ Hid (RI w' w'.heap.size B (p.list true)) ∧ Below W.heap.size W w') := fun W h => (by rw [hlo, hn]; exact rpList_any p A c W h.rf : Calls Tryd.prog 26 #[.agg #[.int .i64 lo, .slice A n c]] W (GivesZ (p.list true) W)).mono fun e w' hh => by
    obtain ⟨B, d, he, r1, _, _, b1⟩ := hh
    exact ⟨B, d, by rw [he, htl], r1, b1⟩
  have HI : Hid (∀ W (B C : Option Addr) (d1 d2 : Nat), RI W W.heap.size B (p.list true) → RI W W.heap.size C (p.list true) → Calls Tryd.prog 20 #[.slice B tl d1, .slice C tl d2] W fun e w' => e = .returned (.bool true) ∧ Below W.heap.size W w') := fun W B C d1 d2 h1 h2 => intsq_any (p.list true) B C tl d1 d2 _ W htl h1 h2 (by omega)
  unfold plV
  rw [← hn, ← hlo]
  clear hn hlo hfl htl
  go_enter Tryd.func11, Tryd.ntmps11
  go_wp2
  have hb1 : Below w.heap.size w (w.alloc (.cells #[.int .i64 lo, .slice A n c] 29)) := (Below.refl _ _).alloc (Nat.le_refl _) _
  have hK : Blk (w.alloc (.cells #[.int .i64 lo, .slice A n c] 29)) w.heap.size 29 #[.int .i64 lo, .slice A n c] := Blk.new _ _ _
  obtain ⟨w1, hw1⟩ : ∃ w1, w1 = w.alloc (.cells #[.int .i64 lo, .slice A n c] 29) := ⟨_, rfl⟩
  obtain ⟨g3, hg3⟩ : ∃ g3, g3 = w.heap.size := ⟨_, rfl⟩
  rw [← hw1] at hb1 hK ⊢
  rw [← hg3] at hK ⊢
  have bo_w1 := (h.more hb1).more (Below.refl _ _).drew
  have ho_w1 : Below w1.heap.size w1 w1.drew := (Below.refl _ _).drew
  have HS : Hid (∀ W, Below w1.heap.size w1 W → W.rangeAt g3 0 [.int .i64 lo, .slice A n c] ∧ True) := fun W hW => ⟨range_blk (hK.below hW hK.lt), trivial⟩
  clear hw1 hg3
  have hS0 := range_blk hK.drew
  refine region_T (fun W => W.rangeAt g3 0 [.int .i64 lo, .slice A n c]) (fun _ => false) (by kernel_rfl) ?_
  refine any_asT rfl (listed' := #[false, false, false, false, false, false, false, false, false, false, false, false, false]) (by kernel_rfl) ?_
  refine take_d (i := 0) (.pointer (some ⟨g, 0, none⟩)) 5 rfl (by kernel_rfl) (by kernel_rfl) (by kernel_rfl) (by kernel_rfl) rfl (by kernel_rfl) (by kernel_rfl) (fun V hV => by kernel_rfl) hS0 (fun _ _ _ h => h) ?_
  simp only [Act.put, List.setIfInBounds_toArray, List.set_cons_zero, List.set_cons_succ]
  refine take_d (i := 2) (.agg #[.int .i64 lo, .slice A n c]) 7 rfl (by kernel_rfl) (by kernel_rfl) (by kernel_rfl) (by kernel_rfl) rfl (by kernel_rfl) (by kernel_rfl) (fun V hV => load_run 29 (.tmp 3) g3 0 [.int .i64 lo, .slice A n c] _ (by kernel_rfl) (by kernel_rfl) hV Tryd.underlying29 rfl (by kernel_rfl) _ rfl) hS0 (fun _ _ _ h => h) ?_
  simp only [Act.put, List.setIfInBounds_toArray, List.set_cons_zero, List.set_cons_succ]
  refine any_comes (i := 1) (by kernel_rfl) ?_
  refine op_enter 14 #[.pointer (some ⟨g, 0, none⟩)] (some 6) rfl (by kernel_rfl) (by kernel_rfl) (by kernel_rfl) ((HFp.out _ bo_w1).mono ?_)
  rintro e w5 ⟨rfl, b1⟩
  have bo_w5 := (bo_w1).more b1
  have ho_w5 := ho_w1.trans (b1.mono ho_w1.size)
  refine ⟨_, rfl, (HS.out _ ho_w5).1, ?_⟩
  simp only [Act.put, List.setIfInBounds_toArray, List.set_cons_zero, List.set_cons_succ]
  refine any_comes (i := 3) (by kernel_rfl) ?_
  refine op_enter 25 #[.agg #[.int .i64 lo, .slice A n c]] (some 8) rfl (by kernel_rfl) (by kernel_rfl) (by kernel_rfl) ((HFr.out _ bo_w5).mono ?_)
  rintro e w6 ⟨rfl, b2⟩
  have bo_w6 := (bo_w5).more b2
  have ho_w6 := ho_w5.trans (b2.mono ho_w5.size)
  refine ⟨_, rfl, (HS.out _ ho_w6).1, ?_⟩
  simp only [Act.put, List.setIfInBounds_toArray, List.set_cons_zero, List.set_cons_succ]
  refine take_d (i := 4) (.bool true) 9 rfl (by kernel_rfl) (by kernel_rfl) (by kernel_rfl) (by kernel_rfl) rfl (by kernel_rfl) (by kernel_rfl) (fun V hV => beql_run (.tmp 6) (.tmp 8) fl fl (by kernel_rfl) (by kernel_rfl) (by kernel_rfl) true (by simp)) ((HS.out _ ho_w6).1) (fun _ _ _ h => h) ?_
  simp only [Act.put, List.setIfInBounds_toArray, List.set_cons_zero, List.set_cons_succ]
  refine take_d (i := 5) (.bool true) 10 rfl (by kernel_rfl) (by kernel_rfl) (by kernel_rfl) (by kernel_rfl) rfl (by kernel_rfl) (by kernel_rfl) (fun V hV => by kernel_rfl) ((HS.out _ ho_w6).1) (fun _ _ _ h => h) ?_
  simp only [Act.put, List.setIfInBounds_toArray, List.set_cons_zero, List.set_cons_succ]
  refine take_d (i := 6) (.pointer (some ⟨g, 0, none⟩)) 11 rfl (by kernel_rfl) (by kernel_rfl) (by kernel_rfl) (by kernel_rfl) rfl (by kernel_rfl) (by kernel_rfl) (fun V hV => by kernel_rfl) ((HS.out _ ho_w6).1) (fun _ _ _ h => h) ?_
  simp only [Act.put, List.setIfInBounds_toArray, List.set_cons_zero, List.set_cons_succ]
  refine take_d (i := 8) (.agg #[.int .i64 lo, .slice A n c]) 13 rfl (by kernel_rfl) (by kernel_rfl) (by kernel_rfl) (by kernel_rfl) rfl (by kernel_rfl) (by kernel_rfl) (fun V hV => load_run 29 (.tmp 3) g3 0 [.int .i64 lo, .slice A n c] _ (by kernel_rfl) (by kernel_rfl) hV Tryd.underlying29 rfl (by kernel_rfl) _ rfl) ((HS.out _ ho_w6).1) (fun _ _ _ h => h) ?_
  simp only [Act.put, List.setIfInBounds_toArray, List.set_cons_zero, List.set_cons_succ]
  refine any_comes (i := 7) (by kernel_rfl) ?_
  refine op_enter 15 #[.pointer (some ⟨g, 0, none⟩)] (some 12) rfl (by kernel_rfl) (by kernel_rfl) (by kernel_rfl) ((HTp.out _ bo_w6).mono ?_)
  rintro e w7 ⟨B1, d1, rfl, r1, b1⟩
  have bo_w7 := (bo_w6).more b1
  have ho_w7 := ho_w6.trans (b1.mono ho_w6.size)
  refine ⟨_, rfl, (HS.out _ ho_w7).1, ?_⟩
  simp only [Act.put, List.setIfInBounds_toArray, List.set_cons_zero, List.set_cons_succ]
  refine any_comes (i := 9) (by kernel_rfl) ?_
  refine op_enter 26 #[.agg #[.int .i64 lo, .slice A n c]] (some 14) rfl (by kernel_rfl) (by kernel_rfl) (by kernel_rfl) ((HLr.out _ bo_w7).mono ?_)
  rintro e w8 ⟨B2, d2, rfl, r2, b2⟩
  have bo_w8 := (bo_w7).more b2
  have ho_w8 := ho_w7.trans (b2.mono ho_w7.size)
  refine ⟨_, rfl, (HS.out _ ho_w8).1, ?_⟩
  simp only [Act.put, List.setIfInBounds_toArray, List.set_cons_zero, List.set_cons_succ]
  refine any_comes (i := 10) (by kernel_rfl) ?_
  refine op_enter 20 #[.slice B1 tl d1, .slice B2 tl d2] (some 15) rfl (by kernel_rfl) (by kernel_rfl) (by kernel_rfl) ((HI.out _ _ _ d1 d2 (ri_up r1.out b2) r2.out).mono ?_)
  rintro e w9 ⟨rfl, b9⟩
  have bo_w9 := (bo_w8).more b9
  have ho_w9 := ho_w8.trans (b9.mono ho_w8.size)
  refine ⟨_, rfl, (HS.out _ ho_w9).1, ?_⟩
  simp only [Act.put, List.setIfInBounds_toArray, List.set_cons_zero, List.set_cons_succ]
  refine take_d (i := 11) (.bool true) 16 rfl (by kernel_rfl) (by kernel_rfl) (by kernel_rfl) (by kernel_rfl) rfl (by kernel_rfl) (by kernel_rfl) (fun V hV => by kernel_rfl) ((HS.out _ ho_w9).1) (fun _ _ _ h => h) ?_
  simp only [Act.put, List.setIfInBounds_toArray, List.set_cons_zero, List.set_cons_succ]
  refine take_d (i := 12) (.bool true) 4 rfl (by kernel_rfl) (by kernel_rfl) (by kernel_rfl) (by kernel_rfl) rfl (by kernel_rfl) (by kernel_rfl) (fun V hV => by kernel_rfl) ((HS.out _ ho_w9).1) (fun _ _ _ h => h) ?_
  simp only [Act.put, List.setIfInBounds_toArray, List.set_cons_zero, List.set_cons_succ]
  refine any_left (by kernel_rfl) ?_
  refine wpAny_tail 13 (by kernel_rfl) (by kernel_rfl) ?_
  change wpList _ _ _ [] _ _
  go_wp2
  go_ret
  exact ⟨rfl, hb1.trans (ho_w9.mono hb1.size)⟩
end Go.Proofs.YtibaaideleinhaaDoor
