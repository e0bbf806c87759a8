/- The walk of the reference's turned (layer 11). -/
import Derived.Test.YtibaaideleinhaaDoorPoolMem
import Derived.Test.YtibaaideleinhaaDoorPoolROdd
import Derived.Great.BuildSlice
import Derived.Maps.AppendAt
set_option linter.unusedVariables false
namespace Go.Proofs.YtibaaideleinhaaDoor
open Go.RowKit

theorem Tryd.infoBoolP : (Tryd.prog.info? 4).map (fun i => (i.zero, i.size, i.bytes)) = some (some (.bool false), 1, 1) := by kernel_rfl
theorem own_bblkP {w : World} {base n : Nat} {v : Value} {l : List Bool} (h : w.ownsRow base 4 1 v n (bcells l)) (hn : 0 < n) : ∃ g c cur, v = .slice (some ⟨g, 0, none⟩) n c ∧ base ≤ g ∧ Blk w g 4 cur ∧ n ≤ c ∧ c ≤ 9223372036854775807 ∧ cur.size = c ∧ cur.toList.take n = bcells l := by
  rcases h.2 with ⟨_, h0⟩ | ⟨g, cap, cur, rfl, hb, hg, h1, h2, h3, h4⟩
  · omega
  · exact ⟨g, cap, cur, rfl, hb, hg, h1, by unfold maxLen at h2; omega, by omega, by simpa using h4⟩
theorem blk_bsP {w : World} {g n : Nat} {cur : Array Value} {l : List Bool} (h : Blk w g 4 cur) (hl : n = l.length) (ht : cur.toList.take n = bcells l) : BS w w.heap.size (some ⟨g, 0, none⟩) l := by
  refine ⟨by rw [bcells_length]; omega, fun h0 => ⟨_, rfl, h.lt, fun j u hu => ?_⟩⟩
  have ea : (⟨g, 0, none⟩ : Addr).add j = ⟨g, j, none⟩ := by unfold Addr.add; split <;> simp_all
  rw [ea, h.cell]
  rw [← ht, List.getElem?_take] at hu
  split at hu
  · simpa using hu
  · cases hu
theorem take_set_bcellsP {cur : Array Value} {n i : Nat} {l : List Bool} (q : Bool) (ht : cur.toList.take n = bcells l) : (cur.setIfInBounds i (.bool q)).toList.take n = bcells (l.set i q) := by
  rw [Array.toList_setIfInBounds, List.take_set, ht]
  simp [bcells, List.map_set]
theorem bidx0_run (b n c i : Nat) {o : Oper} {a : Act} {w : World} (x y : Operand) (ho : o.op = .indexAddr 27 x y) (hx : a.eval x = .slice (some ⟨b, 0, none⟩) n c) (hy : a.eval y = .int .i64 (i : Int)) (hi : i < n) :
    (execOp a.eval o).run Tryd.prog w = .ok (.value (.pointer (some ⟨b, i, none⟩))) w := by
  have hu : (underlying 27).run Tryd.prog w = .ok (.slice 4) w := by kernel_rfl
  unfold execOp
  simp [ho, hx, hy, Instr.indexAt, asIntOf, hu, hi, zadd_at]
theorem guard_intP (op : BinOp) (t : TypeId) (x y : Operand) (k k' : IntKind) (p q : Int) (w : World) : (eqGuard op t x y (.int k p) (.int k' q)).run Tryd.prog w = .ok () w := by
  unfold eqGuard
  cases op <;> rfl
theorem zsub_run {o : Oper} {a : Act} {w : World} (x y : Operand) (p q z : Int) (ho : o.op = .binOp .sub 3 x y 3) (hx : a.eval x = .int .i64 p) (hy : a.eval y = .int .i64 q) (hz : IntKind.i64.wrap (p - q) = z) :
    (execOp a.eval o).run Tryd.prog w = .ok (.value (.int .i64 z)) w := by
  subst hz
  have hv : (binOp .sub 3 (.int .i64 p) (.int .i64 q)).run Tryd.prog w = .ok (.int .i64 (IntKind.i64.wrap (p - q))) w := by simp [go_sem]
  unfold execOp
  simp only [ho, hx, hy, Sem.run_bind, guard_intP, Result.andThen_ok, hv, Sem.run_pure]
/-- What the reference's calls give: a pool whose marks lie in the old row, or in a new one. -/
def GivesP (p : Pl) (A : Option Addr) (w w' : World) (v : Value) : Prop := ∃ A' c', v = plV p A' c' ∧ PlAt w' p A' c' ∧ (∀ ad, A' = some ad → A = some ad ∨ w.heap.size ≤ ad.block)
theorem own_zeroP {w : World} {base n : Nat} {v : Value} {xs : List Value} (hn : n = 0) (h : w.ownsRow base 4 1 v n xs) : ∃ A' c', v = .slice A' n c' ∧ c' ≤ 9223372036854775807 ∧ ∀ ad, A' = some ad → base ≤ ad.block := by
  subst hn
  rcases h.2 with ⟨h1, h0⟩ | ⟨g, cap, cur, rfl, hb, hg, h1, h2, h3, h4⟩
  · exact ⟨none, 0, h1, by omega, fun ad e => by cases e⟩
  · exact ⟨_, cap, rfl, by unfold maxLen at h2; omega, fun ad e => by injection e with e; subst e; exact hb⟩
set_option maxRecDepth 100000 in
set_option maxHeartbeats 4000000 in
theorem rpturned_any (p : Pl) (l : List Int) (q : Bool) (A L : Option Addr) (c m d : Nat) (w : World) (h : PlAt w p A c) (hl : RI w w.heap.size L l) (hm : m = l.length) (ht : ∀ i, i < l.length → p.th (l.getD i 0) = true) (hs : m ≤ 100000) (hn0 : 0 < p.tk.length) :
    Calls Tryd.prog 36 #[plV p A c, .slice L m d, .bool q] w fun e w' => ∃ v, e = .returned v ∧ GivesP (p.turned l q) A w w' v ∧ Below w.heap.size w w' := by
  obtain ⟨i0, hi0, hz0, hz1, hz2⟩ := info_parts Tryd.infoBoolP
  have hby : i0.bytes = 1 := hz2
  have a0 := fun w' => Tryd.poolAgg w'
  have s0 := fun w' => Tryd.poolSize w'
  obtain ⟨n, hn⟩ : ∃ n, n = p.tk.length := ⟨_, rfl⟩
  obtain ⟨lo, hlo⟩ : ∃ n, n = p.lo := ⟨_, rfl⟩
  have hn4 : n ≤ 1024 := by have := h.small.2; omega
  have hl4 : 0 ≤ lo ∧ lo ≤ 1024 := by have := h.small.1; omega
  have HL : Hid (p.tk.length = n) := hn.symm
  have HR : Hid (BS w w.heap.size A p.tk) := h.bs
  have HT : Hid (∀ k, k < m → lo ≤ l.getD k 0 ∧ l.getD k 0 - lo < (n : Int)) := fun k hk => by
    have := Pl.th_iff.1 (ht k (by omega))
    rw [hlo, hn]; exact this
  have HC : Hid (∀ W, Below w.heap.size w W → ∀ k, k < m → ∃ b off, L = some ⟨b, off, none⟩ ∧ b < w.heap.size ∧ W.cell? ⟨b, off + k, none⟩ = some (.int .i64 (l.getD k 0))) := fun W hb k hk => by
    obtain ⟨b, off, e, hlt, hc⟩ := hl (by omega)
    refine ⟨b, off, e, hlt, ?_⟩
    rw [(hb.cell (p := ⟨b, off + k, none⟩) hlt).trans (hc k (by omega)), List.getD_eq_getElem?_getD, List.getElem?_eq_getElem (by omega)]; rfl
  have HK : Hid (∀ k, p.turnK l q (k + 1) = (p.turnK l q k).set (l.getD k 0 - lo).toNat q) := fun k => by rw [Pl.turnK, hlo]
  have HE : Hid (∀ (A' : Option Addr) (c' : Nat) (W : World), BS W W.heap.size A' (p.turnK l q m) → n ≤ c' ∧ c' ≤ 9223372036854775807 → (∀ ad, A' = some ad → w.heap.size ≤ ad.block) → GivesP (p.turned l q) A w W (.agg #[.int .i64 lo, .slice A' n c'])) := fun A' c' W hbs hc hb => by
    have e2 : (p.turned l q).tk.length = n := by rw [Pl.turned_length, hn]
    refine ⟨A', c', by unfold plV; rw [e2, hlo]; rfl, ⟨?_, by rw [e2]; exact hc, ⟨h.small.1, by rw [e2]; exact hn4⟩⟩, fun ad e => .inr (hb ad e)⟩
    show BS W W.heap.size A' (p.turnK l q l.length)
    rw [← hm]; exact hbs
  have HB2 := fun A' c' w' => Tryd.poolBuild2 lo A' n c' w'
  unfold plV
  rw [← hn, ← hlo]
  rw [← hn] at hn0
  have K0 : Hid (Blk (((w.alloc (.cells #[.int .i64 lo, .slice A n c] 29)).alloc (.cells #[.int .i64 0, .slice none 0 0] 29)).alloc (.cells #[] 4)) (w.heap.size + 1) 29 #[.int .i64 0, .slice none 0 0]) := by
    show Blk _ _ _ _
    have h := (Blk.new (w.alloc (.cells #[.int .i64 lo, .slice A n c] 29)) 29 #[.int .i64 0, .slice none 0 0]).alloc (.cells #[] 4)
    have e : (w.alloc (.cells #[.int .i64 lo, .slice A n c] 29)).heap.size = w.heap.size + 1 := by simp
    rwa [e] at h
  have Z0 : Hid (w.heap.size ≤ (((w.alloc (.cells #[.int .i64 lo, .slice A n c] 29)).alloc (.cells #[.int .i64 0, .slice none 0 0] 29)).alloc (.cells #[] 4)).heap.size) := by
    show _ ≤ _
    simp <;> omega
  have B0 : Hid (Below w.heap.size w (((w.alloc (.cells #[.int .i64 lo, .slice A n c] 29)).alloc (.cells #[.int .i64 0, .slice none 0 0] 29)).alloc (.cells #[] 4))) := by
    show Below _ _ _
    exact (((Below.refl w.heap.size w).alloc (Nat.le_refl _) _).alloc (by simp) _).alloc (by simp <;> omega) _
  have KB : Hid (Blk (((w.alloc (.cells #[.int .i64 lo, .slice A n c] 29)).alloc (.cells #[.int .i64 0, .slice none 0 0] 29)).alloc (.cells #[] 4)) w.heap.size 29 #[.int .i64 lo, .slice A n c]) := ((Blk.new w _ _).alloc _).alloc _
  have c0 : (((w.alloc (.cells #[.int .i64 lo, .slice A n c] 29)).alloc (.cells #[.int .i64 0, .slice none 0 0] 29)).alloc (.cells #[] 4)).cell? ⟨w.heap.size, 1, none⟩ = some (.slice A n c) := KB.out.cell 1
  clear h hl ht hm hn hlo
  go_enter Tryd.func36, Tryd.ntmps36
  go_wp2_with (first
    | (at_builtin; refine wpList_append_any _ rfl (.tmp 9) (.tmp 11) _ rfl (w.heap.size + 2) 4 i0 _ 1 1 Tryd.underlying27 hi0 hz0 hz1 hz2 rfl (by omega) (.slice (some ⟨w.heap.size + 2, 0, none⟩) 0 0) 0 [] rfl (by simpa using World.ownsRow_made ((w.alloc (.cells #[.int .i64 lo, .slice A n c] 29)).alloc (.cells #[.int .i64 0, .slice none 0 0] 29)) (e := 4) (size := 1) (base := w.heap.size + 2) #[] 0 (by simp) (by decide) rfl) w.heap.size A n c (bcells p.tk) rfl (by have h := HR.out.below B0.out; unfold BS at h; rw [HL.out] at h; exact h) (bcells_one _) (by simp only [maxLen]; omega) (by omega) (by simp) ?_; intro v1 w1 ho1 hg1 hat1; simp only [Nat.zero_add, List.nil_append] at ho1; obtain ⟨gt, ct, cur, rfl, hgb, K1, hc1, hc2, hsz, htk⟩ := own_bblkP ho1 (by omega); have K2 := K0.out.grown hg1 (by simp [Value.ownBlock]); have K3 := KB.out.grown hg1 (by simp [Value.ownBlock]); have b1 := B0.out.grown hg1 Z0.out (by simp [Value.ownBlock])))
  obtain ⟨g0, hg0⟩ : ∃ g, g = w.heap.size := ⟨_, rfl⟩
  rw [← hg0] at K2 K3 b1 hgb HC HE ⊢
  have hgw : Hid (g0 = w.heap.size) := hg0
  clear hg0
  clear K0 KB B0 Z0 c0 ho1 hg1 hat1
  have hgt : g0 + 2 ≤ gt := by omega
  clear hgb
  go_loopw [8] (fun x wr => ∃ k : Nat, k ≤ m ∧ x = .int .i64 (k : Int) ∧ ∃ cur' : Array Value, Hid (Blk wr gt 4 cur' ∧ cur'.size = ct ∧ cur'.toList.take n = bcells (p.turnK l q k) ∧ Blk wr g0 29 #[.int .i64 lo, .slice A n c] ∧ Blk wr (g0 + 1) 29 #[.int .i64 0, .slice none 0 0] ∧ Below g0 w wr)) (fun x _ => m - (intOf x).toNat)
  case atStart => exact ⟨0, by omega, rfl, cur, K1, hsz, htk, K3, K2, b1⟩
  case round =>
    clear K1 K2 K3 b1 hsz htk cur HR
    obtain ⟨k, hk, rfl, cur, HS⟩ := hrel
    obtain ⟨K1, hsz, htk, K3, K2, hb⟩ := HS.out
    by_cases hlt : k < m
    · have d0 : decide ((k : Int) < (m : Int)) = true := decide_eq_true (by omega)
      have d1 : decide (k < m) = true := decide_eq_true hlt
      obtain ⟨lb, lf, rfl, hlb, hck⟩ := HC.out _ hb k hlt
      have hx0 := HT.out k hlt
      have hk1 := HK.out k
      obtain ⟨x, hx⟩ : ∃ x, x = l.getD k 0 := ⟨_, rfl⟩
      rw [← hx] at hck hx0 hk1
      obtain ⟨j, hj⟩ : ∃ j : Nat, j = (x - lo).toNat := ⟨_, rfl⟩
      rw [← hj] at hk1
      have hjn : j < n := by omega
      have y7 : IntKind.i64.wrap (x - lo) = (j : Int) := by rw [show x - lo = (j : Int) by omega]; exact IntWalk.i64_in _ (by omega)
      have y8 : IntKind.i64.wrap ((k : Int) + 1) = (k : Int) + 1 := IntWalk.i64_in _ (by omega)
      obtain ⟨y, hy⟩ : ∃ y, cur[j]? = some y := ⟨_, Array.getElem?_eq_getElem (by omega)⟩
      have cj := (K1.cell j).trans hy
      have fj := K1.frozen j
      have N1 : Hid (Blk (wr.drew.setCell ⟨gt, j, none⟩ (.bool q)) gt 4 (cur.setIfInBounds j (.bool q))) := Blk.set_ (K1.drew) j (.bool q)
      have N3 : Hid (Blk (wr.drew.setCell ⟨gt, j, none⟩ (.bool q)) g0 29 #[.int .i64 lo, .slice A n c]) := Blk.far (p := ⟨gt, j, none⟩) K3.drew (show g0 ≠ gt by omega) _
      have N2 : Hid (Blk (wr.drew.setCell ⟨gt, j, none⟩ (.bool q)) (g0 + 1) 29 #[.int .i64 0, .slice none 0 0]) := Blk.far (p := ⟨gt, j, none⟩) K2.drew (show g0 + 1 ≠ gt by omega) _
      have NB : Hid (Below g0 w (wr.drew.setCell ⟨gt, j, none⟩ (.bool q))) := (hb.drew).setCell (p := ⟨gt, j, none⟩) (show g0 ≤ gt by omega) _
      have NT : Hid ((cur.setIfInBounds j (.bool q)).toList.take n = bcells (p.turnK l q (k + 1))) := by show _ = _; rw [hk1]; exact take_set_bcellsP q htk
      have NS : Hid ((cur.setIfInBounds j (.bool q)).size = ct) := by show _ = _; simp [hsz]
      have hS0 : (wr.drew).cell? ⟨g0, 0, none⟩ = some (.int .i64 lo) ∧ (wr.drew).cell? ⟨lb, lf + k, none⟩ = some (.int .i64 x) := ⟨K3.cell 0, hck⟩
      clear hx hj hx0 hk1 hy K1 K2 K3 hb htk hsz hck
      go_wp2
      refine region_T (fun W => W.cell? ⟨g0, 0, none⟩ = some (.int .i64 lo) ∧ W.cell? ⟨lb, lf + k, none⟩ = some (.int .i64 x)) (fun i => decide (10 ≤ i)) (by kernel_rfl) ?_
      refine any_asT rfl (listed' := #[false, false, false, false, false, false, false, false, false, false, false]) (by kernel_rfl) ?_
      refine take_d (i := 0) (.slice (some ⟨gt, 0, none⟩) n ct) 19 rfl (by kernel_rfl) (by kernel_rfl) (by kernel_rfl) (by kernel_rfl) rfl (by kernel_rfl) (by kernel_rfl) (fun V hV => by kernel_rfl) hS0 (fun _ _ _ h => h) ?_
      simp only [Act.put, List.setIfInBounds_toArray, List.set_cons_zero, List.set_cons_succ]
      refine take_d (i := 1) (.slice (some ⟨lb, lf, none⟩) m d) 20 rfl (by kernel_rfl) (by kernel_rfl) (by kernel_rfl) (by kernel_rfl) rfl (by kernel_rfl) (by kernel_rfl) (fun V hV => by kernel_rfl) hS0 (fun _ _ _ h => h) ?_
      simp only [Act.put, List.setIfInBounds_toArray, List.set_cons_zero, List.set_cons_succ]
      refine take_d (i := 2) (.int .i64 (k : Int)) 21 rfl (by kernel_rfl) (by kernel_rfl) (by kernel_rfl) (by kernel_rfl) rfl (by kernel_rfl) (by kernel_rfl) (fun V hV => by kernel_rfl) hS0 (fun _ _ _ h => h) ?_
      simp only [Act.put, List.setIfInBounds_toArray, List.set_cons_zero, List.set_cons_succ]
      refine take_d (i := 3) (.pointer (some ⟨lb, lf + k, none⟩)) 22 rfl (by kernel_rfl) (by kernel_rfl) (by kernel_rfl) (by kernel_rfl) rfl (by kernel_rfl) (by kernel_rfl) (fun V hV => iidx_run lb lf m d k (.tmp 20) (.tmp 21) (by kernel_rfl) (by kernel_rfl) (by kernel_rfl) hlt) hS0 (fun _ _ _ h => h) ?_
      simp only [Act.put, List.setIfInBounds_toArray, List.set_cons_zero, List.set_cons_succ]
      refine take_d (i := 4) (.int .i64 x) 23 rfl (by kernel_rfl) (by kernel_rfl) (by kernel_rfl) (by kernel_rfl) rfl (by kernel_rfl) (by kernel_rfl) (fun V hV => cell_run 3 (.tmp 22) ⟨lb, lf + k, none⟩ (.int .i64 x) _ (by kernel_rfl) (by kernel_rfl) hV.2 Tryd.underlying3 rfl (by kernel_rfl)) hS0 (fun _ _ _ h => h) ?_
      simp only [Act.put, List.setIfInBounds_toArray, List.set_cons_zero, List.set_cons_succ]
      refine take_d (i := 5) (.pointer (some ⟨g0, 0, none⟩)) 24 rfl (by kernel_rfl) (by kernel_rfl) (by kernel_rfl) (by kernel_rfl) rfl (by kernel_rfl) (by kernel_rfl) (fun V hV => by kernel_rfl) hS0 (fun _ _ _ h => h) ?_
      simp only [Act.put, List.setIfInBounds_toArray, List.set_cons_zero, List.set_cons_succ]
      refine take_d (i := 6) (.int .i64 lo) 25 rfl (by kernel_rfl) (by kernel_rfl) (by kernel_rfl) (by kernel_rfl) rfl (by kernel_rfl) (by kernel_rfl) (fun V hV => cell_run 3 (.tmp 24) ⟨g0, 0, none⟩ (.int .i64 lo) _ (by kernel_rfl) (by kernel_rfl) hV.1 Tryd.underlying3 rfl (by kernel_rfl)) hS0 (fun _ _ _ h => h) ?_
      simp only [Act.put, List.setIfInBounds_toArray, List.set_cons_zero, List.set_cons_succ]
      refine take_d (i := 7) (.int .i64 (j : Int)) 26 rfl (by kernel_rfl) (by kernel_rfl) (by kernel_rfl) (by kernel_rfl) rfl (by kernel_rfl) (by kernel_rfl) (fun V hV => zsub_run (.tmp 23) (.tmp 25) x lo _ (by kernel_rfl) (by kernel_rfl) (by kernel_rfl) y7) hS0 (fun _ _ _ h => h) ?_
      simp only [Act.put, List.setIfInBounds_toArray, List.set_cons_zero, List.set_cons_succ]
      refine take_d (i := 8) (.bool q) 27 rfl (by kernel_rfl) (by kernel_rfl) (by kernel_rfl) (by kernel_rfl) rfl (by kernel_rfl) (by kernel_rfl) (fun V hV => by kernel_rfl) hS0 (fun _ _ _ h => h) ?_
      simp only [Act.put, List.setIfInBounds_toArray, List.set_cons_zero, List.set_cons_succ]
      refine take_d (i := 9) (.pointer (some ⟨gt, j, none⟩)) 28 rfl (by kernel_rfl) (by kernel_rfl) (by kernel_rfl) (by kernel_rfl) rfl (by kernel_rfl) (by kernel_rfl) (fun V hV => bidx0_run gt n ct j (.tmp 19) (.tmp 26) (by kernel_rfl) (by kernel_rfl) (by kernel_rfl) hjn) hS0 (fun _ _ _ h => h) ?_
      simp only [Act.put, List.setIfInBounds_toArray, List.set_cons_zero, List.set_cons_succ]
      refine any_left (by kernel_rfl) ?_
      refine wpAny_tail 10 (by kernel_rfl) (by kernel_rfl) ?_
      go_wp2
      go_roundw
      case rel => exact ⟨k + 1, by omega, by go_num, _, N1.out, NS.out, NT.out, N3.out, N2.out, NB.out⟩
      case measure => simp [intOf]; omega
    · obtain rfl : k = m := by omega
      have d0 : decide ((k : Int) < (k : Int)) = false := decide_eq_false (by omega)
      have g00 := K3.cell 0
      have c10 := K2.cell 0
      have c11 := K2.cell 1
      have f10 := K2.frozen 0
      have f11 := K2.frozen 1
      have e00 : wr.cell? ⟨g0, 0, none⟩ = some (.int .i64 lo) := g00
      have e10 : wr.cell? ⟨g0 + 1, 0, none⟩ = some (.int .i64 0) := c10
      have e11 : wr.cell? ⟨g0 + 1, 1, none⟩ = some (.slice none 0 0) := c11
      clear g00 c10 c11
      have N1 : Hid (Blk ((wr.setCell ⟨g0 + 1, 0, none⟩ (.int .i64 lo)).setCell ⟨g0 + 1, 1, none⟩ (.slice (some ⟨gt, 0, none⟩) n ct)) gt 4 cur) := Blk.far (p := ⟨g0 + 1, 1, none⟩) (Blk.far (p := ⟨g0 + 1, 0, none⟩) K1 (show gt ≠ g0 + 1 by omega) _) (show gt ≠ g0 + 1 by omega) _
      have N2 := (K2.set_ 0 (.int .i64 lo)).set_ 1 (.slice (some ⟨gt, 0, none⟩) n ct)
      have NB : Hid (Below g0 w ((wr.setCell ⟨g0 + 1, 0, none⟩ (.int .i64 lo)).setCell ⟨g0 + 1, 1, none⟩ (.slice (some ⟨gt, 0, none⟩) n ct))) := (hb.setCell (p := ⟨g0 + 1, 0, none⟩) (show g0 ≤ g0 + 1 by omega) _).setCell (p := ⟨g0 + 1, 1, none⟩) (show g0 ≤ g0 + 1 by omega) _
      have r0 : ((wr.setCell ⟨g0 + 1, 0, none⟩ (.int .i64 lo)).setCell ⟨g0 + 1, 1, none⟩ (.slice (some ⟨gt, 0, none⟩) n ct)).cell? ⟨g0 + 1, 0, none⟩ = some (.int .i64 lo) := N2.cell 0
      have r1 : ((wr.setCell ⟨g0 + 1, 0, none⟩ (.int .i64 lo)).setCell ⟨g0 + 1, 1, none⟩ (.slice (some ⟨gt, 0, none⟩) n ct)).cell? ⟨g0 + 1, 1, none⟩ = some (.slice (some ⟨gt, 0, none⟩) n ct) := N2.cell 1
      have Htk := Lib.hid htk
      clear hsz htk K1 K2 K3 hb N2
      go_wp2
      refine bodyPost_ret (v := .agg #[.int .i64 lo, .slice (some ⟨gt, 0, none⟩) n ct]) (by simp [results, Tryd.results36, go_sem, r0, r1]) rfl ⟨_, rfl, HE.out _ _ _ (blk_bsP N1.out (by rw [Pl.turnK_length]; exact HL.out.symm) Htk.out) ⟨hc1, hc2⟩ (fun ad e => by injection e with e; subst e; show g0 ≤ gt; omega), by rw [← hgw.out]; exact NB.out⟩
set_option maxRecDepth 100000 in
set_option maxHeartbeats 4000000 in
theorem rpturned_none (p : Pl) (l : List Int) (q : Bool) (A L : Option Addr) (c m d : Nat) (w : World) (h : PlAt w p A c) (hl : RI w w.heap.size L l) (hm : m = l.length) (ht : ∀ i, i < l.length → p.th (l.getD i 0) = true) (hs : m ≤ 100000) (hn0 : p.tk.length = 0) :
    Calls Tryd.prog 36 #[plV p A c, .slice L m d, .bool q] w fun e w' => ∃ v, e = .returned v ∧ GivesP (p.turned l q) A w w' v ∧ Below w.heap.size w w' := by
  obtain ⟨i0, hi0, hz0, hz1, hz2⟩ := info_parts Tryd.infoBoolP
  have hby : i0.bytes = 1 := hz2
  have a0 := fun w' => Tryd.poolAgg w'
  have s0 := fun w' => Tryd.poolSize w'
  obtain ⟨n, hn⟩ : ∃ n, n = p.tk.length := ⟨_, rfl⟩
  obtain ⟨lo, hlo⟩ : ∃ n, n = p.lo := ⟨_, rfl⟩
  have hn4 : n ≤ 1024 := by have := h.small.2; omega
  have hl4 : 0 ≤ lo ∧ lo ≤ 1024 := by have := h.small.1; omega
  have HL : Hid (p.tk.length = n) := hn.symm
  have HR : Hid (BS w w.heap.size A p.tk) := h.bs
  have HT : Hid (∀ k, k < m → lo ≤ l.getD k 0 ∧ l.getD k 0 - lo < (n : Int)) := fun k hk => by
    have := Pl.th_iff.1 (ht k (by omega))
    rw [hlo, hn]; exact this
  have HC : Hid (∀ W, Below w.heap.size w W → ∀ k, k < m → ∃ b off, L = some ⟨b, off, none⟩ ∧ b < w.heap.size ∧ W.cell? ⟨b, off + k, none⟩ = some (.int .i64 (l.getD k 0))) := fun W hb k hk => by
    obtain ⟨b, off, e, hlt, hc⟩ := hl (by omega)
    refine ⟨b, off, e, hlt, ?_⟩
    rw [(hb.cell (p := ⟨b, off + k, none⟩) hlt).trans (hc k (by omega)), List.getD_eq_getElem?_getD, List.getElem?_eq_getElem (by omega)]; rfl
  have HK : Hid (∀ k, p.turnK l q (k + 1) = (p.turnK l q k).set (l.getD k 0 - lo).toNat q) := fun k => by rw [Pl.turnK, hlo]
  have HE : Hid (∀ (A' : Option Addr) (c' : Nat) (W : World), BS W W.heap.size A' (p.turnK l q m) → n ≤ c' ∧ c' ≤ 9223372036854775807 → (∀ ad, A' = some ad → w.heap.size ≤ ad.block) → GivesP (p.turned l q) A w W (.agg #[.int .i64 lo, .slice A' n c'])) := fun A' c' W hbs hc hb => by
    have e2 : (p.turned l q).tk.length = n := by rw [Pl.turned_length, hn]
    refine ⟨A', c', by unfold plV; rw [e2, hlo]; rfl, ⟨?_, by rw [e2]; exact hc, ⟨h.small.1, by rw [e2]; exact hn4⟩⟩, fun ad e => .inr (hb ad e)⟩
    show BS W W.heap.size A' (p.turnK l q l.length)
    rw [← hm]; exact hbs
  have HB2 := fun A' c' w' => Tryd.poolBuild2 lo A' n c' w'
  unfold plV
  rw [← hn, ← hlo]
  rw [← hn] at hn0
  have hpt : p.tk = [] := List.eq_nil_of_length_eq_zero (by omega)
  have K0 : Hid (Blk (((w.alloc (.cells #[.int .i64 lo, .slice A n c] 29)).alloc (.cells #[.int .i64 0, .slice none 0 0] 29)).alloc (.cells #[] 4)) (w.heap.size + 1) 29 #[.int .i64 0, .slice none 0 0]) := by
    show Blk _ _ _ _
    have h := (Blk.new (w.alloc (.cells #[.int .i64 lo, .slice A n c] 29)) 29 #[.int .i64 0, .slice none 0 0]).alloc (.cells #[] 4)
    have e : (w.alloc (.cells #[.int .i64 lo, .slice A n c] 29)).heap.size = w.heap.size + 1 := by simp
    rwa [e] at h
  have Z0 : Hid (w.heap.size ≤ (((w.alloc (.cells #[.int .i64 lo, .slice A n c] 29)).alloc (.cells #[.int .i64 0, .slice none 0 0] 29)).alloc (.cells #[] 4)).heap.size) := by
    show _ ≤ _
    simp <;> omega
  have B0 : Hid (Below w.heap.size w (((w.alloc (.cells #[.int .i64 lo, .slice A n c] 29)).alloc (.cells #[.int .i64 0, .slice none 0 0] 29)).alloc (.cells #[] 4))) := by
    show Below _ _ _
    exact (((Below.refl w.heap.size w).alloc (Nat.le_refl _) _).alloc (by simp) _).alloc (by simp <;> omega) _
  have KB : Hid (Blk (((w.alloc (.cells #[.int .i64 lo, .slice A n c] 29)).alloc (.cells #[.int .i64 0, .slice none 0 0] 29)).alloc (.cells #[] 4)) w.heap.size 29 #[.int .i64 lo, .slice A n c]) := ((Blk.new w _ _).alloc _).alloc _
  have c0 : (((w.alloc (.cells #[.int .i64 lo, .slice A n c] 29)).alloc (.cells #[.int .i64 0, .slice none 0 0] 29)).alloc (.cells #[] 4)).cell? ⟨w.heap.size, 1, none⟩ = some (.slice A n c) := KB.out.cell 1
  obtain rfl : m = 0 := by
    rcases Nat.eq_zero_or_pos m with h0 | h0
    · exact h0
    · have := HT.out 0 h0; omega
  have Hn0 : Hid (n = 0) := hn0
  have Hpt : Hid (p.tk = []) := hpt
  clear h hl ht hm hn hlo hn0 hpt
  go_enter Tryd.func36, Tryd.ntmps36
  go_wp2_with (first
    | (at_builtin; refine wpList_append_any _ rfl (.tmp 9) (.tmp 11) _ rfl (w.heap.size + 2) 4 i0 _ 1 1 Tryd.underlying27 hi0 hz0 hz1 hz2 rfl (by omega) (.slice (some ⟨w.heap.size + 2, 0, none⟩) 0 0) 0 [] rfl (by simpa using World.ownsRow_made ((w.alloc (.cells #[.int .i64 lo, .slice A n c] 29)).alloc (.cells #[.int .i64 0, .slice none 0 0] 29)) (e := 4) (size := 1) (base := w.heap.size + 2) #[] 0 (by simp) (by decide) rfl) w.heap.size A n c (bcells p.tk) rfl (by have h := HR.out.below B0.out; unfold BS at h; rw [HL.out] at h; exact h) (bcells_one _) (by simp only [maxLen]; omega) (by omega) (by simp) ?_; intro v1 w1 ho1 hg1 hat1; simp only [Nat.zero_add, List.nil_append] at ho1; obtain ⟨At, ct, rfl, hc2, hgb⟩ := own_zeroP Hn0.out ho1; have K2 := K0.out.grown hg1 (by simp [Value.ownBlock]); have K3 := KB.out.grown hg1 (by simp [Value.ownBlock]); have b1 := B0.out.grown hg1 Z0.out (by simp [Value.ownBlock])))
  obtain ⟨g0, hg0⟩ : ∃ g, g = w.heap.size := ⟨_, rfl⟩
  rw [← hg0] at K2 K3 b1 hgb HC HE ⊢
  have hgw : Hid (g0 = w.heap.size) := hg0
  clear hg0
  clear K0 KB B0 Z0 c0 ho1 hg1 hat1
  go_loopw [8] (fun x wr => x = .int .i64 0 ∧ wr = w1) (fun x _ => 0)
  case atStart => exact ⟨rfl, rfl⟩
  case round =>
    obtain ⟨rfl, rfl⟩ := hrel
    have g00 : wr.cell? ⟨g0, 0, none⟩ = some (.int .i64 lo) := K3.cell 0
    have c10 : wr.cell? ⟨g0 + 1, 0, none⟩ = some (.int .i64 0) := K2.cell 0
    have c11 : wr.cell? ⟨g0 + 1, 1, none⟩ = some (.slice none 0 0) := K2.cell 1
    have f10 := K2.frozen 0
    have f11 := K2.frozen 1
    have N2 := (K2.set_ 0 (.int .i64 lo)).set_ 1 (.slice At n ct)
    have NB : Hid (Below g0 w ((wr.setCell ⟨g0 + 1, 0, none⟩ (.int .i64 lo)).setCell ⟨g0 + 1, 1, none⟩ (.slice At n ct))) := (b1.setCell (p := ⟨g0 + 1, 0, none⟩) (show g0 ≤ g0 + 1 by omega) _).setCell (p := ⟨g0 + 1, 1, none⟩) (show g0 ≤ g0 + 1 by omega) _
    have r0 : ((wr.setCell ⟨g0 + 1, 0, none⟩ (.int .i64 lo)).setCell ⟨g0 + 1, 1, none⟩ (.slice At n ct)).cell? ⟨g0 + 1, 0, none⟩ = some (.int .i64 lo) := N2.cell 0
    have r1 : ((wr.setCell ⟨g0 + 1, 0, none⟩ (.int .i64 lo)).setCell ⟨g0 + 1, 1, none⟩ (.slice At n ct)).cell? ⟨g0 + 1, 1, none⟩ = some (.slice At n ct) := N2.cell 1
    clear K2 K3 b1 N2
    go_wp2
    refine bodyPost_ret (v := .agg #[.int .i64 lo, .slice At n ct]) (by simp [results, Tryd.results36, go_sem, r0, r1]) rfl ⟨_, rfl, HE.out _ _ _ ⟨by rw [bcells_length, Pl.turnK_length, Hpt.out]; rfl, fun h0 => absurd h0 (by rw [Pl.turnK_length, Hpt.out]; simp)⟩ ⟨by rw [Hn0.out]; omega, hc2⟩ (fun ad e => by have := hgb ad e; omega), by rw [← hgw.out]; exact NB.out⟩
theorem rpturned (p : Pl) (l : List Int) (q : Bool) (A L : Option Addr) (c m d : Nat) (w : World) (h : PlAt w p A c) (hl : RI w w.heap.size L l) (hm : m = l.length) (ht : ∀ i, i < l.length → p.th (l.getD i 0) = true) (hs : m ≤ 100000) :
    Calls Tryd.prog 36 #[plV p A c, .slice L m d, .bool q] w fun e w' => ∃ v, e = .returned v ∧ GivesP (p.turned l q) A w w' v ∧ Below w.heap.size w w' := by
  rcases Nat.eq_zero_or_pos p.tk.length with h0 | h0
  · exact rpturned_none p l q A L c m d w h hl hm ht hs h0
  · exact rpturned_any p l q A L c m d w h hl hm ht hs h0
end Go.Proofs.YtibaaideleinhaaDoor
