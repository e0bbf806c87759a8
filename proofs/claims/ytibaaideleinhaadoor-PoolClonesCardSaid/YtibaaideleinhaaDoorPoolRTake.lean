/- The walks of the reference's Take, Give, Mark (layer 11). -/
import Derived.Test.YtibaaideleinhaaDoorPoolRTurned
import Derived.Test.YtibaaideleinhaaDoorPoolRList
import Derived.Deep.MidRow
set_option linter.unusedVariables false
namespace Go.Proofs.YtibaaideleinhaaDoor
open Go.RowKit

theorem there_two {w : World} {g : Nat} {t : TypeId} {v0 v1 : Value} (h : Blk w g t #[v0, v1]) : w.there g 0 2 := fun j hj => by
  refine ⟨?_, h.frozen _⟩
  rw [h.cell]
  rcases (show j = 0 ∨ j = 1 by omega) with rfl | rfl <;> rfl
theorem op_store2 {ops : Array Oper} {Q : Exit → Act → World → Prop} {i : Nat} {oi : Oper} {K : Act → World → Prop} {a : Act} {w : World} (gp : Nat) (u0 : Int) (A : Option Addr) (n c : Nat) {v0 v1 : Value} (x y : Operand) (hi : ops[i]? = some oi) (hw : Region.wanted oi (yielded ops a.tmps) = true) (ho : oi.op = .store 29 x y) (hd : oi.dst = none)
    (hx : a.eval x = .pointer (some ⟨gp, 0, none⟩)) (hy : a.eval y = .agg #[.int .i64 u0, .slice A n c]) (hb : Blk w gp 29 #[v0, v1])
    (h : K a ((w.setCell ⟨gp, 0, none⟩ (.int .i64 u0)).setCell ⟨gp, 1, none⟩ (.slice A n c))) : wpOp Tryd.prog ops Q i K a w := by
  refine wpOp_step hi fun K' hK => ?_
  rw [if_pos hw]
  refine wp_store_mid 29 x y ho gp 0 _ hx hy (there_two hb) (by kernel_rfl) (by simp [Value.oneCell']) ?_
  rw [hd]
  exact hK _ _ h
theorem sl_run {o : Oper} {a : Act} {w : World} (x y : Operand) (A : Option Addr) (n c h : Nat) (ho : o.op = .slice 36 x none (some y) none) (hx : a.eval x = .slice A n c) (hy : a.eval y = .int .i64 (h : Int)) (h1 : h ≤ c) : (execOp a.eval o).run Tryd.prog w = .ok (.value (.slice A h c)) w := by
  unfold execOp
  simp only [ho, hx, hy, Option.map_some, Option.map_none, Sem.run_bind, zsl_to A n c h (h : Int) rfl h1 w, Result.andThen_ok, Sem.run_pure]
/-- What a store into a result's block leaves. -/
theorem res_two {w : World} {g : Nat} {u0 : Int} {A : Option Addr} {n c : Nat} {v0 v1 : Value} (h : Blk w g 29 #[v0, v1]) : ((w.setCell ⟨g, 0, none⟩ (.int .i64 u0)).setCell ⟨g, 1, none⟩ (.slice A n c)).cell? ⟨g, 0, none⟩ = some (.int .i64 u0) ∧ ((w.setCell ⟨g, 0, none⟩ (.int .i64 u0)).setCell ⟨g, 1, none⟩ (.slice A n c)).cell? ⟨g, 1, none⟩ = some (.slice A n c) := by
  have := (h.set_ 0 (.int .i64 u0)).set_ 1 (.slice A n c)
  exact ⟨this.cell 0, this.cell 1⟩
theorem GivesP.old {p : Pl} {A : Option Addr} {c : Nat} {w w' : World} (h : PlAt w p A c) (hb : Below w.heap.size w w') : GivesP p A w w' (.agg #[.int .i64 p.lo, .slice A p.tk.length c]) := ⟨A, c, rfl, h.up hb, fun ad e => .inl e⟩
theorem GivesP.up {p : Pl} {A : Option Addr} {w w' w'' : World} {v : Value} (h : GivesP p A w w' v) (hb : Below w'.heap.size w' w'') : GivesP p A w w'' v := by
  obtain ⟨A', c', e, hp, ho⟩ := h
  exact ⟨A', c', e, hp.up hb, ho⟩
theorem plat_below {w w' : World} {B : Nat} {p : Pl} {A : Option Addr} {c : Nat} (h : BS w B A p.tk) (hc : p.tk.length ≤ c ∧ c ≤ 9223372036854775807) (hs : p.small) (hb : Below B w w') (hB : B ≤ w'.heap.size) : PlAt w' p A c := ⟨(h.below hb).more hB, hc, hs⟩
theorem turns_two (W : World) (g : Nat) (u v : Value) : Turns W ((W.setCell ⟨g, 0, none⟩ u).setCell ⟨g, 1, none⟩ v) (fun k => k = g) (fun k => k = g) := (Turns.set_ (F := fun k => k = g) rfl 0 u).trans (Turns.set_ (F := fun k => k = g) rfl 1 v)
theorem plat_set2 {W : World} {p : Pl} {A : Option Addr} {c g : Nat} {u v : Value} (h : PlAt W p A c) (hn : 0 < p.tk.length → ∀ ad, A = some ad → ad.block ≠ g) : PlAt ((W.setCell ⟨g, 0, none⟩ u).setCell ⟨g, 1, none⟩ v) p A c := by
  refine ⟨?_, h.cap, h.small⟩
  rcases Nat.eq_zero_or_pos p.tk.length with h0 | h0
  · exact ⟨h.bs.1, fun hh => by omega⟩
  · have ht := turns_two W g u v
    exact (Reads.turns h.bs (Nat.le_refl _) ht (fun ad e => hn h0 ad e)).more ht.size
theorem ri_set2 {W : World} {A : Option Addr} {l : List Int} {g : Nat} {u v : Value} (h : RI W W.heap.size A l) (hn : ∀ ad, A = some ad → ad.block ≠ g) : RI ((W.setCell ⟨g, 0, none⟩ u).setCell ⟨g, 1, none⟩ v) ((W.setCell ⟨g, 0, none⟩ u).setCell ⟨g, 1, none⟩ v).heap.size A l := by
  have ht := turns_two W g u v
  exact RZ.ri ((Reads.turns h.rz (Nat.le_refl _) ht hn).more ht.size)
theorem two_new (w : World) (lo : Int) (A : Option Addr) (n c : Nat) : Blk ((w.alloc (.cells #[.int .i64 lo, .slice A n c] 29)).alloc (.cells #[.int .i64 0, .slice none 0 0] 29)) w.heap.size 29 #[.int .i64 lo, .slice A n c] ∧ Blk ((w.alloc (.cells #[.int .i64 lo, .slice A n c] 29)).alloc (.cells #[.int .i64 0, .slice none 0 0] 29)) (w.heap.size + 1) 29 #[.int .i64 0, .slice none 0 0] := by
  refine ⟨(Blk.new w _ _).alloc _, ?_⟩
  have h := Blk.new (w.alloc (.cells #[.int .i64 lo, .slice A n c] 29)) 29 #[.int .i64 0, .slice none 0 0]
  have e : (w.alloc (.cells #[.int .i64 lo, .slice A n c] 29)).heap.size = w.heap.size + 1 := by simp
  rwa [e] at h
theorem ri_take {w : World} {B : Nat} {A : Option Addr} {l : List Int} (h : RI w B A l) (k : Nat) : RI w B A (l.take k) := fun hn => by
  rw [List.length_take] at hn
  obtain ⟨b, off, e, hb, hc⟩ := h (by omega)
  refine ⟨b, off, e, hb, fun j hj => ?_⟩
  rw [List.length_take] at hj
  rw [hc j (by omega), List.getElem_take]
set_option maxRecDepth 100000 in
set_option maxHeartbeats 4000000 in
theorem rptake_any (p : Pl) (z : Int) (A : Option Addr) (c : Nat) (w : World) (h : PlAt w p A c) :
    Calls Tryd.prog 21 #[plV p A c, .int .i64 z] w fun e w' => ∃ v A2 c2, e = .returned (.tuple #[v, .slice A2 (p.take z).2.1.length c2, .int .i64 (p.take z).2.2]) ∧ GivesP (p.take z).1 A w w' v ∧ RI w' w'.heap.size A2 (p.take z).2.1 ∧ Below w.heap.size w w' := by
  have a0 := fun w' => Tryd.poolAgg w'
  have s0 := fun w' => Tryd.poolSize w'
  obtain ⟨n, hn⟩ : ∃ n, n = p.tk.length := ⟨_, rfl⟩
  obtain ⟨lo, hlo⟩ : ∃ n, n = p.lo := ⟨_, rfl⟩
  have HO : Hid (∀ w', Below w.heap.size w w' → GivesP p A w w' (.agg #[.int .i64 lo, .slice A n c])) := fun w' hb => by rw [hlo, hn]; exact GivesP.old h hb
  have HLi : Hid (∀ W, Below w.heap.size w W → Calls Tryd.prog 35 #[.agg #[.int .i64 lo, .slice A n c], .bool false] W (GivesZ (p.list false) W)) := fun W hb => by rw [hlo, hn]; exact rplist_any p false A c W (h.up hb)
  have hb0 : Below w.heap.size w ((w.alloc (.cells #[.int .i64 lo, .slice A n c] 29)).alloc (.cells #[.int .i64 0, .slice none 0 0] 29)) := ((Below.refl w.heap.size w).alloc (Nat.le_refl _) _).alloc (by simp) _
  have hfl4 : (p.list false).length ≤ 1024 := Nat.le_trans (p.list_length false) h.small.2
  by_cases hz : z < 0
  · have hv : p.take z = (p, [], 1) := by unfold Pl.take; rw [if_pos hz]
    rw [hv]
    have d0 : decide (z < 0) = true := decide_eq_true hz
    unfold plV
    rw [← hn, ← hlo]
    clear h hn hlo hv
    go_enter Tryd.func21, Tryd.ntmps21
    go_wp2
    have hb1 : Below w.heap.size w ((w.alloc (.cells #[.int .i64 lo, .slice A n c] 29)).alloc (.cells #[.int .i64 lo, .slice A n c] 29)) := ((Below.refl w.heap.size w).alloc (Nat.le_refl _) _).alloc (by simp) _
    refine bodyPost_ret (v := .tuple #[.agg #[.int .i64 lo, .slice A n c], .slice none 0 0, .int .i64 1]) (by simp [results, Tryd.results21, go_sem]) rfl ⟨_, none, 0, rfl, HO.out _ hb1, (fun h0 => absurd h0 (by simp)), hb1⟩
  · have d0 : decide (z < 0) = false := decide_eq_false hz
    obtain ⟨fl, hfl⟩ : ∃ fl, fl = (p.list false).length := ⟨_, rfl⟩
    by_cases hz2 : (fl : Int) < z
    · have hv : p.take z = (p, [], 2) := by unfold Pl.take; rw [if_neg hz, if_pos (by rw [← hfl]; exact hz2)]
      rw [hv]
      have d1 : decide ((fl : Int) < z) = true := decide_eq_true hz2
      have d2 : decide (z > (fl : Int)) = true := decide_eq_true hz2
      have HLi2 : Hid (∀ W, Below w.heap.size w W → Calls Tryd.prog 35 #[.agg #[.int .i64 lo, .slice A n c], .bool false] W fun e w' => (∃ L cl, e = .returned (.slice L fl cl)) ∧ Below W.heap.size W w') := fun W hb => (HLi.out W hb).mono fun e w' hh => by
        obtain ⟨L, cl, he, r1, r2, r3, b1⟩ := hh
        exact ⟨⟨L, cl, by rw [he, hfl]⟩, b1⟩
      have HK : Hid (Blk ((w.alloc (.cells #[.int .i64 lo, .slice A n c] 29)).alloc (.cells #[.int .i64 0, .slice none 0 0] 29)) w.heap.size 29 #[.int .i64 lo, .slice A n c] ∧ Blk ((w.alloc (.cells #[.int .i64 lo, .slice A n c] 29)).alloc (.cells #[.int .i64 0, .slice none 0 0] 29)) (w.heap.size + 1) 29 #[.int .i64 0, .slice none 0 0]) := two_new w lo A n c
      unfold plV
      rw [← hn, ← hlo]
      clear h hn hlo hv HLi hfl hfl4
      go_enter Tryd.func21, Tryd.ntmps21
      go_wp2_with (go_at_call 35; (with_reducible refine (HLi2.out _ hb0).mono ?_); rintro e w2 ⟨⟨L, cl, rfl⟩, b2⟩; have K0 := HK.out.1.below b2 HK.out.1.lt; have K1 := HK.out.2.below b2 HK.out.2.lt; have c00 : w2.cell? ⟨w.heap.size, 0, none⟩ = some (.int .i64 lo) := K0.cell 0; have c01 : w2.cell? ⟨w.heap.size, 1, none⟩ = some (.slice A n c) := K0.cell 1; have c10 : w2.cell? ⟨w.heap.size + 1, 0, none⟩ = some (.int .i64 0) := K1.cell 0; have c11 : w2.cell? ⟨w.heap.size + 1, 1, none⟩ = some (.slice none 0 0) := K1.cell 1; have f10 := K1.frozen 0; have f11 := K1.frozen 1; have hb2 := hb0.trans (b2.mono hb0.size))
      obtain ⟨r0, r1⟩ := res_two (u0 := lo) (A := A) (n := n) (c := c) K1
      have hb3 : Below w.heap.size w ((w2.setCell ⟨w.heap.size + 1, 0, none⟩ (.int .i64 lo)).setCell ⟨w.heap.size + 1, 1, none⟩ (.slice A n c)) := (hb2.setCell (p := ⟨w.heap.size + 1, 0, none⟩) (Nat.le_succ _) _).setCell (p := ⟨w.heap.size + 1, 1, none⟩) (Nat.le_succ _) _
      refine bodyPost_ret (v := .tuple #[.agg #[.int .i64 lo, .slice A n c], .slice none 0 0, .int .i64 2]) (by simp [results, Tryd.results21, go_sem, r0, r1]) rfl ⟨_, none, 0, rfl, HO.out _ hb3, (fun h0 => absurd h0 (by simp)), hb3⟩
    · have d1 : decide ((fl : Int) < z) = false := decide_eq_false hz2
      have d2 : decide (z > (fl : Int)) = false := decide_eq_false hz2
      obtain ⟨z, rfl⟩ : ∃ k : Nat, z = (k : Int) := ⟨z.toNat, by omega⟩
      have hv : p.take (z : Int) = (p.turned ((p.list false).take z) true, (p.list false).take z, 0) := by unfold Pl.take; rw [if_neg hz, if_neg (by rw [← hfl]; exact hz2), Int.toNat_natCast]
      rw [hv]
      have hzl : ((p.list false).take z).length = z := by rw [List.length_take]; omega
      have HTu : Hid (∀ W L cl, Below w.heap.size w W → RI W W.heap.size L (p.list false) → Calls Tryd.prog 36 #[.agg #[.int .i64 lo, .slice A n c], .slice L z cl, .bool true] W fun e w' => ∃ v, e = .returned v ∧ GivesP (p.turned ((p.list false).take z) true) A W w' v ∧ Below W.heap.size W w') := fun W L cl hb hr => by
        rw [hlo, hn]
        refine rpturned p ((p.list false).take z) true A L c z cl W (h.up hb) (ri_take hr z) hzl.symm (fun i hi => ?_) (by omega)
        refine Pl.list_th (q := false) ?_
        rw [List.getD_eq_getElem?_getD, List.getElem?_eq_getElem hi]
        exact List.mem_of_mem_take (List.getElem_mem hi)
      have hz4 : z ≤ 1024 := by omega
      have HLi2 : Hid (∀ W, Below w.heap.size w W → Calls Tryd.prog 35 #[.agg #[.int .i64 lo, .slice A n c], .bool false] W fun e w' => ∃ L cl, e = .returned (.slice L fl cl) ∧ Hid (RI w' w'.heap.size L (p.list false)) ∧ fl ≤ cl ∧ (∀ ad, L = some ad → W.heap.size ≤ ad.block) ∧ Below W.heap.size W w') := fun W hb => (HLi.out W hb).mono fun e w' hh => by
        obtain ⟨L, cl, he, r1, r2, r3, b1⟩ := hh
        exact ⟨L, cl, by rw [he, hfl], r1, by omega, r3, b1⟩
      have HK : Hid (Blk ((w.alloc (.cells #[.int .i64 lo, .slice A n c] 29)).alloc (.cells #[.int .i64 0, .slice none 0 0] 29)) w.heap.size 29 #[.int .i64 lo, .slice A n c] ∧ Blk ((w.alloc (.cells #[.int .i64 lo, .slice A n c] 29)).alloc (.cells #[.int .i64 0, .slice none 0 0] 29)) (w.heap.size + 1) 29 #[.int .i64 0, .slice none 0 0]) := two_new w lo A n c
      have HG : Hid (∀ w' w'' v, GivesP (p.turned ((p.list false).take z) true) A w' w'' v → ∃ A' c', v = .agg #[.int .i64 lo, .slice A' n c'] ∧ plV (p.turned ((p.list false).take z) true) A' c' = .agg #[.int .i64 lo, .slice A' n c'] ∧ PlAt w'' (p.turned ((p.list false).take z) true) A' c' ∧ ∀ ad, A' = some ad → A = some ad ∨ w'.heap.size ≤ ad.block) := fun w' w'' v hg => by
        obtain ⟨A', c', e, hp, ho⟩ := hg
        have e2 : (p.turned ((p.list false).take z) true).tk.length = n := by rw [Pl.turned_length, hn]
        have e3 : plV (p.turned ((p.list false).take z) true) A' c' = .agg #[.int .i64 lo, .slice A' n c'] := by unfold plV; rw [e2, hlo]; rfl
        exact ⟨A', c', e.trans e3, e3, hp, ho⟩
      have HP0 : Hid (0 < (p.turned ((p.list false).take z) true).tk.length → ∀ ad, A = some ad → ad.block < w.heap.size) := fun h0 ad e => by
        rw [Pl.turned_length] at h0
        obtain ⟨b, off, e2, hb, _⟩ := h.bs.at_ h0
        rw [e] at e2
        injection e2 with e2
        subst e2
        exact hb
      have Hzl : Hid (((p.list false).take z).length = z) := hzl
      have Hhn : Hid (n = p.tk.length ∧ lo = p.lo) := ⟨hn, hlo⟩
      unfold plV
      rw [← hn, ← hlo]
      clear h hn hlo hv HLi hfl4 hzl hfl
      go_enter Tryd.func21, Tryd.ntmps21
      go_wp2_with (go_at_call 35; (with_reducible refine (HLi2.out _ hb0).mono ?_); rintro e wl ⟨L, cl, rfl, hL, hcl, hLn, b2⟩; have hb2 := hb0.trans (b2.mono hb0.size); have K0 := HK.out.1.below b2 HK.out.1.lt; have K1 := HK.out.2.below b2 HK.out.2.lt)
      obtain ⟨g0, hg0⟩ : ∃ g, g = w.heap.size := ⟨_, rfl⟩
      rw [← hg0] at K0 K1 ⊢
      have Hg0 : Hid (g0 = w.heap.size) := hg0
      clear hg0
      have hzc : z ≤ cl := by omega
      have hS0 : (wl.drew).rangeAt g0 0 [.int .i64 lo, .slice A n c] := range_blk K0.drew
      have hbd : Below w.heap.size w wl.drew := hb2.drew
      have K1d := K1.drew
      refine region_T (fun W => W.rangeAt g0 0 [.int .i64 lo, .slice A n c]) (fun i => decide (9 ≤ i)) (by kernel_rfl) ?_
      refine any_asT rfl (listed' := #[false, false, false, false, false, false, false, false, false, false, false]) (by kernel_rfl) ?_
      refine take_d (i := 0) (.agg #[.int .i64 lo, .slice A n c]) 18 rfl (by kernel_rfl) (by kernel_rfl) (by kernel_rfl) (by kernel_rfl) rfl (by kernel_rfl) (by kernel_rfl) (fun V hV => load_run 29 (.tmp 2) g0 0 [.int .i64 lo, .slice A n c] _ (by kernel_rfl) (by kernel_rfl) hV Tryd.underlying29 rfl (by kernel_rfl) _ rfl) hS0 (fun _ _ _ h => h) ?_
      simp only [Act.put, List.setIfInBounds_toArray, List.set_cons_zero, List.set_cons_succ]
      refine take_d (i := 1) (.slice L fl cl) 19 rfl (by kernel_rfl) (by kernel_rfl) (by kernel_rfl) (by kernel_rfl) rfl (by kernel_rfl) (by kernel_rfl) (fun V hV => by kernel_rfl) hS0 (fun _ _ _ h => h) ?_
      simp only [Act.put, List.setIfInBounds_toArray, List.set_cons_zero, List.set_cons_succ]
      refine take_d (i := 2) (.int .i64 (z : Int)) 20 rfl (by kernel_rfl) (by kernel_rfl) (by kernel_rfl) (by kernel_rfl) rfl (by kernel_rfl) (by kernel_rfl) (fun V hV => by kernel_rfl) hS0 (fun _ _ _ h => h) ?_
      simp only [Act.put, List.setIfInBounds_toArray, List.set_cons_zero, List.set_cons_succ]
      refine take_d (i := 3) (.slice L z cl) 21 rfl (by kernel_rfl) (by kernel_rfl) (by kernel_rfl) (by kernel_rfl) rfl (by kernel_rfl) (by kernel_rfl) (fun V hV => sl_run (.tmp 19) (.tmp 20) L fl cl z (by kernel_rfl) (by kernel_rfl) (by kernel_rfl) hzc) hS0 (fun _ _ _ h => h) ?_
      simp only [Act.put, List.setIfInBounds_toArray, List.set_cons_zero, List.set_cons_succ]
      refine take_d (i := 5) (.slice L fl cl) 23 rfl (by kernel_rfl) (by kernel_rfl) (by kernel_rfl) (by kernel_rfl) rfl (by kernel_rfl) (by kernel_rfl) (fun V hV => by kernel_rfl) hS0 (fun _ _ _ h => h) ?_
      simp only [Act.put, List.setIfInBounds_toArray, List.set_cons_zero, List.set_cons_succ]
      refine take_d (i := 6) (.int .i64 (z : Int)) 24 rfl (by kernel_rfl) (by kernel_rfl) (by kernel_rfl) (by kernel_rfl) rfl (by kernel_rfl) (by kernel_rfl) (fun V hV => by kernel_rfl) hS0 (fun _ _ _ h => h) ?_
      simp only [Act.put, List.setIfInBounds_toArray, List.set_cons_zero, List.set_cons_succ]
      refine take_d (i := 7) (.slice L z cl) 25 rfl (by kernel_rfl) (by kernel_rfl) (by kernel_rfl) (by kernel_rfl) rfl (by kernel_rfl) (by kernel_rfl) (fun V hV => sl_run (.tmp 23) (.tmp 24) L fl cl z (by kernel_rfl) (by kernel_rfl) (by kernel_rfl) hzc) hS0 (fun _ _ _ h => h) ?_
      simp only [Act.put, List.setIfInBounds_toArray, List.set_cons_zero, List.set_cons_succ]
      refine any_comes (i := 4) (by kernel_rfl) ?_
      refine op_enter 36 #[.agg #[.int .i64 lo, .slice A n c], .slice L z cl, .bool true] (some 22) rfl (by kernel_rfl) (by kernel_rfl) (by kernel_rfl) ((HTu.out wl.drew L cl hbd (ri_up hL.out ((Below.refl _ _).drew))).mono ?_)
      rintro e w3 ⟨v, rfl, hgv, b3⟩
      obtain ⟨A', c', rfl, hpv, hG, hgo⟩ := HG.out _ _ _ hgv
      have K03 := (K0.drew).below b3 K0.drew.lt
      have K13 := K1d.below b3 K1d.lt
      have hb3 := hbd.trans (b3.mono hbd.size)
      have hL3 := ri_up (ri_up hL.out ((Below.refl _ _).drew)) b3
      refine ⟨_, rfl, range_blk K03, ?_⟩
      simp only [Act.put, List.setIfInBounds_toArray, List.set_cons_zero, List.set_cons_succ]
      have N0 : Blk ((w3.setCell ⟨g0 + 1, 0, none⟩ (.int .i64 lo)).setCell ⟨g0 + 1, 1, none⟩ (.slice A' n c')) g0 29 #[.int .i64 lo, .slice A n c] := Blk.far (p := ⟨g0 + 1, 1, none⟩) (Blk.far (p := ⟨g0 + 1, 0, none⟩) K03 (show g0 ≠ g0 + 1 by omega) _) (show g0 ≠ g0 + 1 by omega) _
      refine any_comes (i := 8) (by kernel_rfl) (op_store2 (g0 + 1) lo A' n c' (.tmp 4) (.tmp 22) rfl (by kernel_rfl) (by kernel_rfl) rfl (by kernel_rfl) (by kernel_rfl) K13 ⟨range_blk N0, ?_⟩)
      refine any_left (by kernel_rfl) ?_
      refine wpAny_tail 9 (by kernel_rfl) (by kernel_rfl) ?_
      obtain ⟨r0, r1⟩ := res_two (u0 := lo) (A := A') (n := n) (c := c') K13
      have hl2 := K1.lt
      have hG2 : PlAt ((w3.setCell ⟨g0 + 1, 0, none⟩ (.int .i64 lo)).setCell ⟨g0 + 1, 1, none⟩ (.slice A' n c')) (p.turned ((p.list false).take z) true) A' c' := plat_set2 hG (fun h0 ad e => by
        rcases hgo ad e with h1 | h1
        · have := HP0.out h0 ad h1; have := Hg0.out; omega
        · have : wl.heap.size ≤ ad.block := h1; omega)
      have hL4 : RI ((w3.setCell ⟨g0 + 1, 0, none⟩ (.int .i64 lo)).setCell ⟨g0 + 1, 1, none⟩ (.slice A' n c')) ((w3.setCell ⟨g0 + 1, 0, none⟩ (.int .i64 lo)).setCell ⟨g0 + 1, 1, none⟩ (.slice A' n c')).heap.size L (p.list false) := ri_set2 hL3 (fun ad e => by have h1 := hLn ad e; have h2 := Hg0.out; simp at h1; omega)
      have hb5 : Below w.heap.size w ((w3.setCell ⟨g0 + 1, 0, none⟩ (.int .i64 lo)).setCell ⟨g0 + 1, 1, none⟩ (.slice A' n c')) := (hb3.setCell (p := ⟨g0 + 1, 0, none⟩) (by show w.heap.size ≤ g0 + 1; have := Hg0.out; omega) _).setCell (p := ⟨g0 + 1, 1, none⟩) (by show w.heap.size ≤ g0 + 1; have := Hg0.out; omega) _
      have HgG := Lib.hid hG2
      have HgL := Lib.hid hL4
      clear hG2 hL4 hG hL3 K03 K13 N0 K0 K1 K1d hS0
      go_wp2
      refine bodyPost_ret (v := .tuple #[.agg #[.int .i64 lo, .slice A' n c'], .slice L z cl, .int .i64 0]) (by simp [results, Tryd.results21, go_sem, r0, r1]) rfl ⟨_, L, cl, by rw [Hzl.out], ⟨A', c', hpv.symm, HgG.out, fun ad e => (hgo ad e).imp id (fun h => Nat.le_trans hb2.size h)⟩, ri_take HgL.out z, hb5⟩
end Go.Proofs.YtibaaideleinhaaDoor
