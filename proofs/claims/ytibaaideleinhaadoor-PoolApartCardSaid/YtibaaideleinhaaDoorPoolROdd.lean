/- The walk of the reference's odd (layer 11). -/
import Derived.Test.YtibaaideleinhaaDoorPoolRHas
import Derived.Deep.RegionWith
import Derived.Test.YtibaaideleinhaaDoorRound
set_option linter.unusedVariables false
namespace Go.Proofs.YtibaaideleinhaaDoor
open Go.RowKit

theorem odd_block {p : Pl} {l : List Int} {q : Bool} {e : Int} {i : Nat} (hi : i < l.length) (h : p.th (l.getD i 0) = false) : p.odd l q e = 10 := by
  unfold Pl.odd
  rw [if_pos]
  rw [← Bool.not_eq_true, List.all_eq_true]
  intro hh
  rw [hh i (List.mem_range.2 hi)] at h
  cases h
theorem odd_wrong {p : Pl} {l : List Int} {q : Bool} {e : Int} {i : Nat} (ht : ∀ j, j < l.length → p.th (l.getD j 0) = true) (hi : i < l.length) (h : p.oddAt l q i = false) : p.odd l q e = e := by
  unfold Pl.odd
  have h1 : (List.range l.length).all (fun i => p.th (l.getD i 0)) = true := List.all_eq_true.2 fun j hj => ht j (List.mem_range.1 hj)
  rw [h1, if_neg (by decide), if_pos]
  rw [← Bool.not_eq_true, List.all_eq_true]
  intro hh
  rw [hh i (List.mem_range.2 hi)] at h
  cases h
theorem odd_fine {p : Pl} {l : List Int} {q : Bool} {e : Int} (ht : ∀ j, j < l.length → p.th (l.getD j 0) = true) (h : ∀ j, j < l.length → p.oddAt l q j = true) : p.odd l q e = 0 := by
  unfold Pl.odd
  have h1 : (List.range l.length).all (fun i => p.th (l.getD i 0)) = true := List.all_eq_true.2 fun j hj => ht j (List.mem_range.1 hj)
  have h2 : (List.range l.length).all (p.oddAt l q) = true := List.all_eq_true.2 fun j hj => h j (List.mem_range.1 hj)
  rw [h1, if_neg (by decide), h2, if_neg (by decide)]
theorem oddAt_iff {p : Pl} {l : List Int} {q : Bool} {i : Nat} : p.oddAt l q i = true ↔ p.has (l.getD i 0) = q ∧ ∀ k, k < i → l.getD k 0 ≠ l.getD i 0 := by
  unfold Pl.oddAt
  simp only [Bool.and_eq_true, beq_iff_eq, List.all_eq_true, List.mem_range, Bool.not_eq_true', decide_eq_false_iff_not]
theorem iidx_run (b off n c i : Nat) {o : Oper} {a : Act} {w : World} (x y : Operand) (ho : o.op = .indexAddr 36 x y) (hx : a.eval x = .slice (some ⟨b, off, none⟩) n c) (hy : a.eval y = .int .i64 (i : Int)) (hi : i < n) :
    (execOp a.eval o).run Tryd.prog w = .ok (.value (.pointer (some ⟨b, off + i, none⟩))) w := by
  have hu : (underlying 36).run Tryd.prog w = .ok (.slice 3) w := by kernel_rfl
  unfold execOp
  simp [ho, hx, hy, Instr.indexAt, asIntOf, hu, hi, zadd_at]
theorem bnot_run {o : Oper} {a : Act} {w : World} (p r : Bool) (x : Operand) (ho : o.op = .unOp .not 4 x) (hx : a.eval x = .bool p) (hr : (!p) = r) : (execOp a.eval o).run Tryd.prog w = .ok (.value (.bool r)) w := by
  subst hr
  unfold execOp
  simp only [ho, hx]
  cases p <;> kernel_rfl
theorem bneq_run (p q r : Bool) {o : Oper} {a : Act} {w : World} (x y : Operand) (ho : o.op = .binOp .neq 4 x y 4) (hx : a.eval x = .bool p) (hy : a.eval y = .bool q) (hr : (p != q) = r) : (execOp a.eval o).run Tryd.prog w = .ok (.value (.bool r)) w := by
  subst hr
  unfold execOp
  simp only [ho, hx, hy]
  cases p <;> cases q <;> kernel_rfl
theorem range_blk {w : World} {g : Nat} {t : TypeId} {u v : Value} (h : Blk w g t #[u, v]) : w.rangeAt g 0 [u, v] := fun j x hj => by
  rw [Nat.zero_add, h.cell]
  simpa using hj
theorem Tryd.pNotF (w : World) : Sem.run Tryd.prog (Op.unary UnOp.not (Value.bool false)) w = .ok (.bool true) w := by kernel_rfl
theorem Tryd.pNotT (w : World) : Sem.run Tryd.prog (Op.unary UnOp.not (Value.bool true)) w = .ok (.bool false) w := by kernel_rfl
set_option maxRecDepth 100000 in
set_option maxHeartbeats 4000000 in
theorem rpodd_any (p : Pl) (l : List Int) (q : Bool) (e : Int) (A L : Option Addr) (c m d : Nat) (w : World) (h : PlAt w p A c) (hl : RI w w.heap.size L l) (hm : m = l.length) (hz : ∀ z ∈ l, InZ z) (hs : m ≤ 100000) :
    Calls Tryd.prog 37 #[plV p A c, .slice L m d, .bool q, .int .i64 e] w fun e' w' => e' = .returned (.int .i64 (p.odd l q e)) ∧ Below w.heap.size w w' := by
  have a0 := fun w' => Tryd.poolAgg w'
  have s0 := fun w' => Tryd.poolSize w'
  have n0 := fun w' => Tryd.pNotF w'
  have n1 := fun w' => Tryd.pNotT w'
  obtain ⟨n, hn⟩ : ∃ n, n = p.tk.length := ⟨_, rfl⟩
  obtain ⟨lo, hlo⟩ : ∃ n, n = p.lo := ⟨_, rfl⟩
  have hin : ∀ i, i < m → InZ (l.getD i 0) := fun i hi => by
    rw [List.getD_eq_getElem?_getD, List.getElem?_eq_getElem (by omega)]
    exact hz _ (List.getElem_mem _)
  have HTh : Hid (∀ W i, i < m → Calls Tryd.prog 38 #[.agg #[.int .i64 lo, .slice A n c], .int .i64 (l.getD i 0)] W fun e w' => e = .returned (.bool (p.th (l.getD i 0))) ∧ Below W.heap.size W w') := fun W i hi => by
    rw [hn, hlo]; exact rpthere_any p A c _ W h.small (hin i hi)
  have HHs : Hid (∀ W i, i < m → Below w.heap.size w W → Calls Tryd.prog 24 #[.agg #[.int .i64 lo, .slice A n c], .int .i64 (l.getD i 0)] W fun e w' => e = .returned (.bool (p.has (l.getD i 0))) ∧ Below W.heap.size W w') := fun W i hi hb => by
    rw [hn, hlo]; exact rphas_any p A c _ W (h.up hb) (hin i hi)
  have HC : Hid (∀ W, Below w.heap.size w W → ∀ k, k < m → ∃ b off, L = some ⟨b, off, none⟩ ∧ W.cell? ⟨b, off + k, none⟩ = some (.int .i64 (l.getD k 0))) := fun W hb k hk => by
    obtain ⟨b, off, e, hlt, hc⟩ := hl (by omega)
    refine ⟨b, off, e, ?_⟩
    rw [(hb.cell (p := ⟨b, off + k, none⟩) hlt).trans (hc k (by omega)), List.getD_eq_getElem?_getD, List.getElem?_eq_getElem (by omega)]; rfl
  have HB : Hid (∀ i, i < m → p.th (l.getD i 0) = false → p.odd l q e = 10) := fun i hi h => odd_block (by omega) h
  have HN : Hid ((∀ j, j < m → p.th (l.getD j 0) = true) → ∀ i, i < m → p.oddAt l q i = false → p.odd l q e = e) := fun ht i hi h => odd_wrong (fun j hj => ht j (by omega)) (by omega) h
  have HY : Hid ((∀ j, j < m → p.th (l.getD j 0) = true) → (∀ j, j < m → p.oddAt l q j = true) → p.odd l q e = 0) := fun ht h => odd_fine (fun j hj => ht j (by omega)) (fun j hj => h j (by omega))
  unfold plV
  rw [← hn, ← hlo]
  clear hn hlo h hl hm hz hin
  go_enter Tryd.func37, Tryd.ntmps37
  go_wp2
  obtain ⟨w1, hw1⟩ : ∃ w1, w1 = w.alloc (.cells #[.int .i64 lo, .slice A n c] 29) := ⟨_, rfl⟩
  obtain ⟨g, hg⟩ : ∃ g, g = w.heap.size := ⟨_, rfl⟩
  have HW : Hid (Below w.heap.size w w1) := by show Below _ _ _; rw [hw1]; exact (Below.refl _ _).alloc (Nat.le_refl _) _
  have HK : Hid (Blk w1 g 29 #[.int .i64 lo, .slice A n c]) := by show Blk _ _ _ _; rw [hw1, hg]; exact Blk.new _ _ _
  rw [← hw1, ← hg]
  have HU : Hid (∀ W, Below w1.heap.size w1 W → Below w.heap.size w W) := fun W hb => HW.out.trans (hb.mono HW.out.size)
  have HG : Hid (∀ W, Below w1.heap.size w1 W → W.rangeAt g 0 [.int .i64 lo, .slice A n c]) := fun W hb => range_blk (HK.out.below hb HK.out.lt)
  clear hw1 hg HK HW
  go_loopw [9] (fun x wr => ∃ i : Nat, i ≤ m ∧ x = .int .i64 (i : Int) ∧ Hid (∀ j, j < i → p.th (l.getD j 0) = true) ∧ Hid (Below w1.heap.size w1 wr)) (fun x _ => m - (intOf x).toNat)
  case atStart => exact ⟨0, by omega, rfl, fun j hj => by omega, Below.refl _ _⟩
  case round =>
    obtain ⟨i, hi, rfl, HI, hb⟩ := hrel
    by_cases hlt : i < m
    · have d0 : decide ((i : Int) < (m : Int)) = true := decide_eq_true (by omega)
      have d1 : decide (i < m) = true := decide_eq_true hlt
      obtain ⟨lb, lf, rfl, hci⟩ := HC.out _ (HU.out _ hb.out) i hlt
      have HT2 := Lib.hid (fun W => HTh.out W i hlt)
      obtain ⟨x, hx⟩ : ∃ x, x = l.getD i 0 := ⟨_, rfl⟩
      obtain ⟨v, hv⟩ : ∃ v, v = p.th (l.getD i 0) := ⟨_, rfl⟩
      rw [← hv] at HT2
      rw [← hx] at hci HT2
      have Hv := Lib.hid hv
      have Hx := Lib.hid hx
      clear hv hx
      have u0 : (0 : Int) ≤ (i : Int) := by omega
      have u1 : (i : Int) < (m : Int) := by omega
      have y7 : IntKind.i64.wrap ((i : Int) + 1) = (i : Int) + 1 := IntWalk.i64_in _ (by omega)
      have hbd := hb.out.drew
      have HSS : Hid (∀ W, Below w1.heap.size w1 W → W.rangeAt g 0 [.int .i64 lo, .slice A n c] ∧ W.cell? ⟨lb, lf + i, none⟩ = some (.int .i64 x)) := fun W hW => by
        obtain ⟨_, _, e9, h9⟩ := HC.out _ (HU.out _ hW) i hlt
        simp only [Option.some.injEq, Addr.mk.injEq, and_true] at e9
        obtain ⟨rfl, rfl⟩ := e9
        rw [← Hx.out] at h9
        exact ⟨(HG.out _ hW), h9⟩
      have hS0 := HSS.out _ hbd
      rcases v with _ | _
      · have HX : Hid (p.odd l q e = 10) := HB.out i hlt Hv.out.symm
        go_wp2
        refine region_T (fun W => W.rangeAt g 0 [.int .i64 lo, .slice A n c] ∧ W.cell? ⟨lb, lf + i, none⟩ = some (.int .i64 x)) (fun _ => false) (by kernel_rfl) ?_
        refine any_asT rfl (listed' := #[false, false, false, false, false, false, false]) (by kernel_rfl) ?_
        refine take_d (i := 0) (.agg #[.int .i64 lo, .slice A n c]) 18 rfl (by kernel_rfl) (by kernel_rfl) (by kernel_rfl) (by kernel_rfl) rfl (by kernel_rfl) (by kernel_rfl) (fun V hV => load_run 29 (.tmp 4) g 0 [.int .i64 lo, .slice A n c] _ (by kernel_rfl) (by kernel_rfl) hV.1 Tryd.underlying29 rfl (by kernel_rfl) _ rfl) hS0 (fun _ _ _ h => h) ?_
        simp only [Act.put, List.setIfInBounds_toArray, List.set_cons_zero, List.set_cons_succ]
        refine take_d (i := 1) (.slice (some ⟨lb, lf, none⟩) m d) 19 rfl (by kernel_rfl) (by kernel_rfl) (by kernel_rfl) (by kernel_rfl) rfl (by kernel_rfl) (by kernel_rfl) (fun V hV => by kernel_rfl) hS0 (fun _ _ _ h => h) ?_
        simp only [Act.put, List.setIfInBounds_toArray, List.set_cons_zero, List.set_cons_succ]
        refine take_d (i := 2) (.int .i64 (i : Int)) 20 rfl (by kernel_rfl) (by kernel_rfl) (by kernel_rfl) (by kernel_rfl) rfl (by kernel_rfl) (by kernel_rfl) (fun V hV => by kernel_rfl) hS0 (fun _ _ _ h => h) ?_
        simp only [Act.put, List.setIfInBounds_toArray, List.set_cons_zero, List.set_cons_succ]
        refine take_d (i := 3) (.pointer (some ⟨lb, lf + i, none⟩)) 21 rfl (by kernel_rfl) (by kernel_rfl) (by kernel_rfl) (by kernel_rfl) rfl (by kernel_rfl) (by kernel_rfl) (fun V hV => iidx_run lb lf m d i (.tmp 19) (.tmp 20) (by kernel_rfl) (by kernel_rfl) (by kernel_rfl) hlt) hS0 (fun _ _ _ h => h) ?_
        simp only [Act.put, List.setIfInBounds_toArray, List.set_cons_zero, List.set_cons_succ]
        refine take_d (i := 4) (.int .i64 x) 22 rfl (by kernel_rfl) (by kernel_rfl) (by kernel_rfl) (by kernel_rfl) rfl (by kernel_rfl) (by kernel_rfl) (fun V hV => cell_run 3 (.tmp 21) ⟨lb, lf + i, none⟩ (.int .i64 x) _ (by kernel_rfl) (by kernel_rfl) hV.2 Tryd.underlying3 rfl (by kernel_rfl)) hS0 (fun _ _ _ h => h) ?_
        simp only [Act.put, List.setIfInBounds_toArray, List.set_cons_zero, List.set_cons_succ]
        refine any_comes (i := 5) (by kernel_rfl) ?_
        refine op_enter 38 #[.agg #[.int .i64 lo, .slice A n c], .int .i64 x] (some 23) rfl (by kernel_rfl) (by kernel_rfl) (by kernel_rfl) ((HT2.out _).mono ?_)
        rintro e' w2 ⟨rfl, b2⟩
        have hb2 : Hid (Below w1.heap.size w1 w2) := hbd.trans (b2.mono hbd.size)
        have hS1 := HSS.out _ hb2.out
        refine ⟨_, rfl, hS1, ?_⟩
        simp only [Act.put, List.setIfInBounds_toArray, List.set_cons_zero, List.set_cons_succ]
        refine take_d (i := 6) (.bool true) 24 rfl (by kernel_rfl) (by kernel_rfl) (by kernel_rfl) (by kernel_rfl) rfl (by kernel_rfl) (by kernel_rfl) (fun V hV => bnot_run false true (.tmp 23) (by kernel_rfl) (by kernel_rfl) rfl) hS1 (fun _ _ _ h => h) ?_
        simp only [Act.put, List.setIfInBounds_toArray, List.set_cons_zero, List.set_cons_succ]
        refine any_left (by kernel_rfl) ?_
        refine wpAny_tail 7 (by kernel_rfl) (by kernel_rfl) ?_
        change wpList _ _ _ [] _ _
        go_wp2
        go_ret
        exact ⟨by rw [HX.out]; rfl, HU.out _ (hbd.trans (b2.mono hbd.size))⟩
      · have HI2 : Hid (∀ j, j < i + 1 → p.th (l.getD j 0) = true) := fun j hj => by
          by_cases hji : j < i
          · exact HI.out j hji
          · obtain rfl : j = i := by omega
            exact Hv.out.symm
        go_wp2
        refine region_T (fun W => W.rangeAt g 0 [.int .i64 lo, .slice A n c] ∧ W.cell? ⟨lb, lf + i, none⟩ = some (.int .i64 x)) (fun _ => false) (by kernel_rfl) ?_
        refine any_asT rfl (listed' := #[false, false, false, false, false, false, false]) (by kernel_rfl) ?_
        refine take_d (i := 0) (.agg #[.int .i64 lo, .slice A n c]) 18 rfl (by kernel_rfl) (by kernel_rfl) (by kernel_rfl) (by kernel_rfl) rfl (by kernel_rfl) (by kernel_rfl) (fun V hV => load_run 29 (.tmp 4) g 0 [.int .i64 lo, .slice A n c] _ (by kernel_rfl) (by kernel_rfl) hV.1 Tryd.underlying29 rfl (by kernel_rfl) _ rfl) hS0 (fun _ _ _ h => h) ?_
        simp only [Act.put, List.setIfInBounds_toArray, List.set_cons_zero, List.set_cons_succ]
        refine take_d (i := 1) (.slice (some ⟨lb, lf, none⟩) m d) 19 rfl (by kernel_rfl) (by kernel_rfl) (by kernel_rfl) (by kernel_rfl) rfl (by kernel_rfl) (by kernel_rfl) (fun V hV => by kernel_rfl) hS0 (fun _ _ _ h => h) ?_
        simp only [Act.put, List.setIfInBounds_toArray, List.set_cons_zero, List.set_cons_succ]
        refine take_d (i := 2) (.int .i64 (i : Int)) 20 rfl (by kernel_rfl) (by kernel_rfl) (by kernel_rfl) (by kernel_rfl) rfl (by kernel_rfl) (by kernel_rfl) (fun V hV => by kernel_rfl) hS0 (fun _ _ _ h => h) ?_
        simp only [Act.put, List.setIfInBounds_toArray, List.set_cons_zero, List.set_cons_succ]
        refine take_d (i := 3) (.pointer (some ⟨lb, lf + i, none⟩)) 21 rfl (by kernel_rfl) (by kernel_rfl) (by kernel_rfl) (by kernel_rfl) rfl (by kernel_rfl) (by kernel_rfl) (fun V hV => iidx_run lb lf m d i (.tmp 19) (.tmp 20) (by kernel_rfl) (by kernel_rfl) (by kernel_rfl) hlt) hS0 (fun _ _ _ h => h) ?_
        simp only [Act.put, List.setIfInBounds_toArray, List.set_cons_zero, List.set_cons_succ]
        refine take_d (i := 4) (.int .i64 x) 22 rfl (by kernel_rfl) (by kernel_rfl) (by kernel_rfl) (by kernel_rfl) rfl (by kernel_rfl) (by kernel_rfl) (fun V hV => cell_run 3 (.tmp 21) ⟨lb, lf + i, none⟩ (.int .i64 x) _ (by kernel_rfl) (by kernel_rfl) hV.2 Tryd.underlying3 rfl (by kernel_rfl)) hS0 (fun _ _ _ h => h) ?_
        simp only [Act.put, List.setIfInBounds_toArray, List.set_cons_zero, List.set_cons_succ]
        refine any_comes (i := 5) (by kernel_rfl) ?_
        refine op_enter 38 #[.agg #[.int .i64 lo, .slice A n c], .int .i64 x] (some 23) rfl (by kernel_rfl) (by kernel_rfl) (by kernel_rfl) ((HT2.out _).mono ?_)
        rintro e' w2 ⟨rfl, b2⟩
        have hb2 : Hid (Below w1.heap.size w1 w2) := hbd.trans (b2.mono hbd.size)
        have hS1 := HSS.out _ hb2.out
        refine ⟨_, rfl, hS1, ?_⟩
        simp only [Act.put, List.setIfInBounds_toArray, List.set_cons_zero, List.set_cons_succ]
        refine take_d (i := 6) (.bool false) 24 rfl (by kernel_rfl) (by kernel_rfl) (by kernel_rfl) (by kernel_rfl) rfl (by kernel_rfl) (by kernel_rfl) (fun V hV => bnot_run true false (.tmp 23) (by kernel_rfl) (by kernel_rfl) rfl) hS1 (fun _ _ _ h => h) ?_
        simp only [Act.put, List.setIfInBounds_toArray, List.set_cons_zero, List.set_cons_succ]
        refine any_left (by kernel_rfl) ?_
        refine wpAny_tail 7 (by kernel_rfl) (by kernel_rfl) ?_
        change wpList _ _ _ [] _ _
        go_wp2
        go_roundw
        case rel => exact ⟨i + 1, by omega, by go_num, HI2, hbd.trans (b2.mono hbd.size)⟩
        case measure => simp [intOf]; omega
    · obtain rfl : i = m := by omega
      have d0 : decide ((i : Int) < (i : Int)) = false := decide_eq_false (by omega)
      clear HB HTh
      go_wp2
      obtain ⟨wo, rfl⟩ : ∃ wo : World, wo = wr := ⟨_, rfl⟩
      go_loopw [10, 11] (fun x _ wr => ∃ j : Nat, j ≤ i ∧ x = .int .i64 (j : Int) ∧ Hid (∀ k, k < j → p.oddAt l q k = true) ∧ Hid (Below w1.heap.size w1 wr)) (fun x _ _ => i - (intOf x).toNat)
      case atStart => exact ⟨0, by omega, rfl, fun j hj => by omega, hb⟩
      case round =>
        clear hb
        obtain ⟨j, hj, rfl, HJ, hb⟩ := hrel
        by_cases hjt : j < i
        · have e0 : decide ((j : Int) < (i : Int)) = true := decide_eq_true (by omega)
          have e1 : decide (j < i) = true := decide_eq_true hjt
          obtain ⟨lb, lf, rfl, hcj⟩ := HC.out _ (HU.out _ hb.out) j hjt
          have HT2 := Lib.hid (fun W => HHs.out W j hjt)
          obtain ⟨x, hx⟩ : ∃ x, x = l.getD j 0 := ⟨_, rfl⟩
          obtain ⟨v, hv⟩ : ∃ v, v = p.has (l.getD j 0) := ⟨_, rfl⟩
          rw [← hv] at HT2
          rw [← hx] at hcj HT2
          have Hv := Lib.hid hv
          have Hx := Lib.hid hx
          clear hv hx
          have u0 : (0 : Int) ≤ (j : Int) := by omega
          have u1 : (j : Int) < (i : Int) := by omega
          have y7 : IntKind.i64.wrap ((j : Int) + 1) = (j : Int) + 1 := IntWalk.i64_in _ (by omega)
          have hbd := hb.out.drew
          have hbu := HU.out _ hbd
          have HSS : Hid (∀ W, Below w1.heap.size w1 W → W.rangeAt g 0 [.int .i64 lo, .slice A n c] ∧ W.cell? ⟨lb, lf + j, none⟩ = some (.int .i64 x)) := fun W hW => by
            obtain ⟨_, _, e9, h9⟩ := HC.out _ (HU.out _ hW) j hjt
            simp only [Option.some.injEq, Addr.mk.injEq, and_true] at e9
            obtain ⟨rfl, rfl⟩ := e9
            rw [← Hx.out] at h9
            exact ⟨(HG.out _ hW), h9⟩
          have hS0 := HSS.out _ hbd
          by_cases hvq : v = q
          · subst hvq
            have q0 : (v != v) = false := by simp
            go_wp2
            refine region_T (fun W => W.rangeAt g 0 [.int .i64 lo, .slice A n c] ∧ W.cell? ⟨lb, lf + j, none⟩ = some (.int .i64 x)) (fun _ => false) (by kernel_rfl) ?_
            refine any_asT rfl (listed' := #[false, false, false, false, false, false, false, false]) (by kernel_rfl) ?_
            refine take_d (i := 0) (.agg #[.int .i64 lo, .slice A n c]) 31 rfl (by kernel_rfl) (by kernel_rfl) (by kernel_rfl) (by kernel_rfl) rfl (by kernel_rfl) (by kernel_rfl) (fun V hV => load_run 29 (.tmp 4) g 0 [.int .i64 lo, .slice A n c] _ (by kernel_rfl) (by kernel_rfl) hV.1 Tryd.underlying29 rfl (by kernel_rfl) _ rfl) hS0 (fun _ _ _ h => h) ?_
            simp only [Act.put, List.setIfInBounds_toArray, List.set_cons_zero, List.set_cons_succ]
            refine take_d (i := 1) (.slice (some ⟨lb, lf, none⟩) i d) 32 rfl (by kernel_rfl) (by kernel_rfl) (by kernel_rfl) (by kernel_rfl) rfl (by kernel_rfl) (by kernel_rfl) (fun V hV => by kernel_rfl) hS0 (fun _ _ _ h => h) ?_
            simp only [Act.put, List.setIfInBounds_toArray, List.set_cons_zero, List.set_cons_succ]
            refine take_d (i := 2) (.int .i64 (j : Int)) 33 rfl (by kernel_rfl) (by kernel_rfl) (by kernel_rfl) (by kernel_rfl) rfl (by kernel_rfl) (by kernel_rfl) (fun V hV => by kernel_rfl) hS0 (fun _ _ _ h => h) ?_
            simp only [Act.put, List.setIfInBounds_toArray, List.set_cons_zero, List.set_cons_succ]
            refine take_d (i := 3) (.pointer (some ⟨lb, lf + j, none⟩)) 34 rfl (by kernel_rfl) (by kernel_rfl) (by kernel_rfl) (by kernel_rfl) rfl (by kernel_rfl) (by kernel_rfl) (fun V hV => iidx_run lb lf i d j (.tmp 32) (.tmp 33) (by kernel_rfl) (by kernel_rfl) (by kernel_rfl) hjt) hS0 (fun _ _ _ h => h) ?_
            simp only [Act.put, List.setIfInBounds_toArray, List.set_cons_zero, List.set_cons_succ]
            refine take_d (i := 4) (.int .i64 x) 35 rfl (by kernel_rfl) (by kernel_rfl) (by kernel_rfl) (by kernel_rfl) rfl (by kernel_rfl) (by kernel_rfl) (fun V hV => cell_run 3 (.tmp 34) ⟨lb, lf + j, none⟩ (.int .i64 x) _ (by kernel_rfl) (by kernel_rfl) hV.2 Tryd.underlying3 rfl (by kernel_rfl)) hS0 (fun _ _ _ h => h) ?_
            simp only [Act.put, List.setIfInBounds_toArray, List.set_cons_zero, List.set_cons_succ]
            refine take_d (i := 6) (.bool v) 37 rfl (by kernel_rfl) (by kernel_rfl) (by kernel_rfl) (by kernel_rfl) rfl (by kernel_rfl) (by kernel_rfl) (fun V hV => by kernel_rfl) hS0 (fun _ _ _ h => h) ?_
            simp only [Act.put, List.setIfInBounds_toArray, List.set_cons_zero, List.set_cons_succ]
            refine any_comes (i := 5) (by kernel_rfl) ?_
            refine op_enter 24 #[.agg #[.int .i64 lo, .slice A n c], .int .i64 x] (some 36) rfl (by kernel_rfl) (by kernel_rfl) (by kernel_rfl) ((HT2.out _ hbu).mono ?_)
            rintro e' w2 ⟨rfl, b2⟩
            have hb2 : Hid (Below w1.heap.size w1 w2) := hbd.trans (b2.mono hbd.size)
            have hS1 := HSS.out _ hb2.out
            refine ⟨_, rfl, hS1, ?_⟩
            simp only [Act.put, List.setIfInBounds_toArray, List.set_cons_zero, List.set_cons_succ]
            refine take_d (i := 7) (.bool false) 38 rfl (by kernel_rfl) (by kernel_rfl) (by kernel_rfl) (by kernel_rfl) rfl (by kernel_rfl) (by kernel_rfl) (fun V hV => bneq_run v v false (.tmp 36) (.tmp 37) (by kernel_rfl) (by kernel_rfl) (by kernel_rfl) q0) hS1 (fun _ _ _ h => h) ?_
            simp only [Act.put, List.setIfInBounds_toArray, List.set_cons_zero, List.set_cons_succ]
            refine any_left (by kernel_rfl) ?_
            refine wpAny_tail 8 (by kernel_rfl) (by kernel_rfl) ?_
            change wpList _ _ _ [] _ _
            go_wp2
            obtain ⟨wo2, rfl⟩ : ∃ wo : World, wo = w2 := ⟨_, rfl⟩
            go_loopw [11] (fun x wr => ∃ k : Nat, k ≤ j ∧ x = .int .i64 (k : Int) ∧ Hid (∀ k', k' < k → l.getD k' 0 ≠ l.getD j 0) ∧ Hid (Below w1.heap.size w1 wr)) (fun x _ => j - (intOf x).toNat)
            case atStart => exact ⟨0, by omega, rfl, fun k hk => by omega, hb2⟩
            case round =>
              clear hb hbd hbu hb2 hcj b2 hS0 hS1 HSS
              obtain ⟨k, hk, rfl, HK, hb⟩ := hrel
              by_cases hkt : k < j
              · have k0 : decide ((k : Int) < (j : Int)) = true := decide_eq_true (by omega)
                have k1 : decide (k < j) = true := decide_eq_true hkt
                obtain ⟨_, _, e9, hcj⟩ := HC.out _ (HU.out _ hb.out) j hjt
                obtain ⟨_, _, e8, hck⟩ := HC.out _ (HU.out _ hb.out) k (by omega)
                simp only [Option.some.injEq, Addr.mk.injEq, and_true] at e9 e8
                obtain ⟨rfl, rfl⟩ := e9
                obtain ⟨rfl, rfl⟩ := e8
                obtain ⟨y, hy⟩ : ∃ y, y = l.getD k 0 := ⟨_, rfl⟩
                rw [← Hx.out] at hcj
                rw [← hy] at hck
                have Hy := Lib.hid hy
                clear hy
                have u2 : (0 : Int) ≤ (k : Int) := by omega
                have u3 : (k : Int) < (i : Int) := by omega
                have y8 : IntKind.i64.wrap ((k : Int) + 1) = (k : Int) + 1 := IntWalk.i64_in _ (by omega)
                by_cases heq : y = x
                · have r0 : (y == x) = true := by simpa using heq
                  have r1 : decide (y = x) = true := decide_eq_true heq
                  have HX : Hid (p.odd l v e = e) := HN.out HI.out j hjt (by
                    rw [← Bool.not_eq_true, oddAt_iff]
                    rintro ⟨_, h3⟩
                    exact h3 k hkt (by rw [← Hx.out, ← Hy.out]; exact heq))
                  clear heq
                  go_wp2
                  go_region
                  go_wp2
                  go_ret
                  exact ⟨by rw [HX.out]; rfl, HU.out _ hb.out.drew⟩
                · have r0 : (y == x) = false := by simpa using heq
                  have r1 : decide (y = x) = false := decide_eq_false heq
                  have HK2 : Hid (∀ k', k' < k + 1 → l.getD k' 0 ≠ l.getD j 0) := fun k' hk' => by
                    by_cases hkk : k' < k
                    · exact HK.out k' hkk
                    · obtain rfl : k' = k := by omega
                      rw [← Hy.out, ← Hx.out]; exact heq
                  clear heq
                  go_wp2
                  go_region
                  go_wp2
                  go_roundw
                  case rel => exact ⟨k + 1, by omega, by go_num, HK2, hb.out.drew⟩
                  case measure => simp [intOf]; omega
              · obtain rfl : k = j := by omega
                have k0 : decide ((k : Int) < (k : Int)) = false := decide_eq_false (by omega)
                have HJ2 : Hid (∀ k', k' < k + 1 → p.oddAt l v k' = true) := fun k' hk' => by
                  by_cases hkk : k' < k
                  · exact HJ.out k' hkk
                  · obtain rfl : k' = k := by omega
                    rw [oddAt_iff]
                    exact ⟨Hv.out.symm, HK.out⟩
                go_wp2
                go_roundw
                case rel => exact ⟨k + 1, by omega, by go_num, HJ2, hb⟩
                case measure => simp [intOf]; omega
          · have q0 : (v != q) = true := by simpa using hvq
            have HX : Hid (p.odd l q e = e) := HN.out HI.out j hjt (by
              rw [← Bool.not_eq_true, oddAt_iff]
              rintro ⟨h3, _⟩
              exact hvq (Hv.out.trans h3))
            clear hvq
            go_wp2
            refine region_T (fun W => W.rangeAt g 0 [.int .i64 lo, .slice A n c] ∧ W.cell? ⟨lb, lf + j, none⟩ = some (.int .i64 x)) (fun _ => false) (by kernel_rfl) ?_
            refine any_asT rfl (listed' := #[false, false, false, false, false, false, false, false]) (by kernel_rfl) ?_
            refine take_d (i := 0) (.agg #[.int .i64 lo, .slice A n c]) 31 rfl (by kernel_rfl) (by kernel_rfl) (by kernel_rfl) (by kernel_rfl) rfl (by kernel_rfl) (by kernel_rfl) (fun V hV => load_run 29 (.tmp 4) g 0 [.int .i64 lo, .slice A n c] _ (by kernel_rfl) (by kernel_rfl) hV.1 Tryd.underlying29 rfl (by kernel_rfl) _ rfl) hS0 (fun _ _ _ h => h) ?_
            simp only [Act.put, List.setIfInBounds_toArray, List.set_cons_zero, List.set_cons_succ]
            refine take_d (i := 1) (.slice (some ⟨lb, lf, none⟩) i d) 32 rfl (by kernel_rfl) (by kernel_rfl) (by kernel_rfl) (by kernel_rfl) rfl (by kernel_rfl) (by kernel_rfl) (fun V hV => by kernel_rfl) hS0 (fun _ _ _ h => h) ?_
            simp only [Act.put, List.setIfInBounds_toArray, List.set_cons_zero, List.set_cons_succ]
            refine take_d (i := 2) (.int .i64 (j : Int)) 33 rfl (by kernel_rfl) (by kernel_rfl) (by kernel_rfl) (by kernel_rfl) rfl (by kernel_rfl) (by kernel_rfl) (fun V hV => by kernel_rfl) hS0 (fun _ _ _ h => h) ?_
            simp only [Act.put, List.setIfInBounds_toArray, List.set_cons_zero, List.set_cons_succ]
            refine take_d (i := 3) (.pointer (some ⟨lb, lf + j, none⟩)) 34 rfl (by kernel_rfl) (by kernel_rfl) (by kernel_rfl) (by kernel_rfl) rfl (by kernel_rfl) (by kernel_rfl) (fun V hV => iidx_run lb lf i d j (.tmp 32) (.tmp 33) (by kernel_rfl) (by kernel_rfl) (by kernel_rfl) hjt) hS0 (fun _ _ _ h => h) ?_
            simp only [Act.put, List.setIfInBounds_toArray, List.set_cons_zero, List.set_cons_succ]
            refine take_d (i := 4) (.int .i64 x) 35 rfl (by kernel_rfl) (by kernel_rfl) (by kernel_rfl) (by kernel_rfl) rfl (by kernel_rfl) (by kernel_rfl) (fun V hV => cell_run 3 (.tmp 34) ⟨lb, lf + j, none⟩ (.int .i64 x) _ (by kernel_rfl) (by kernel_rfl) hV.2 Tryd.underlying3 rfl (by kernel_rfl)) hS0 (fun _ _ _ h => h) ?_
            simp only [Act.put, List.setIfInBounds_toArray, List.set_cons_zero, List.set_cons_succ]
            refine take_d (i := 6) (.bool q) 37 rfl (by kernel_rfl) (by kernel_rfl) (by kernel_rfl) (by kernel_rfl) rfl (by kernel_rfl) (by kernel_rfl) (fun V hV => by kernel_rfl) hS0 (fun _ _ _ h => h) ?_
            simp only [Act.put, List.setIfInBounds_toArray, List.set_cons_zero, List.set_cons_succ]
            refine any_comes (i := 5) (by kernel_rfl) ?_
            refine op_enter 24 #[.agg #[.int .i64 lo, .slice A n c], .int .i64 x] (some 36) rfl (by kernel_rfl) (by kernel_rfl) (by kernel_rfl) ((HT2.out _ hbu).mono ?_)
            rintro e' w2 ⟨rfl, b2⟩
            have hb2 : Hid (Below w1.heap.size w1 w2) := hbd.trans (b2.mono hbd.size)
            have hS1 := HSS.out _ hb2.out
            refine ⟨_, rfl, hS1, ?_⟩
            simp only [Act.put, List.setIfInBounds_toArray, List.set_cons_zero, List.set_cons_succ]
            refine take_d (i := 7) (.bool true) 38 rfl (by kernel_rfl) (by kernel_rfl) (by kernel_rfl) (by kernel_rfl) rfl (by kernel_rfl) (by kernel_rfl) (fun V hV => bneq_run v q true (.tmp 36) (.tmp 37) (by kernel_rfl) (by kernel_rfl) (by kernel_rfl) q0) hS1 (fun _ _ _ h => h) ?_
            simp only [Act.put, List.setIfInBounds_toArray, List.set_cons_zero, List.set_cons_succ]
            refine any_left (by kernel_rfl) ?_
            refine wpAny_tail 8 (by kernel_rfl) (by kernel_rfl) ?_
            change wpList _ _ _ [] _ _
            go_wp2
            go_ret
            exact ⟨by rw [HX.out]; rfl, HU.out _ (hbd.trans (b2.mono hbd.size))⟩
        · obtain rfl : j = i := by omega
          have e0 : decide ((j : Int) < (j : Int)) = false := decide_eq_false (by omega)
          have HX : Hid (p.odd l q e = 0) := HY.out HI.out HJ.out
          go_wp2
          go_ret
          exact ⟨by rw [HX.out]; rfl, HU.out _ hb.out⟩
end Go.Proofs.YtibaaideleinhaaDoor
