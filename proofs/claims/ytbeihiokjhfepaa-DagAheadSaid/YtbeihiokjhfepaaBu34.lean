/- Lemmas under the proofs of this place: DagAlike. No statement is proved here. -/
import Derived.Test.YtbeihiokjhfepaaBu32
import Derived.Test.YtbeihiokjhfepaaBu18
import Derived.Test.YtbeihiokjhfepaaBu12
set_option linter.unusedSimpArgs false
set_option linter.unusedVariables false
set_option maxRecDepth 100000
set_option maxHeartbeats 16000000
namespace Go.Proofs.Ytbeihiokjhfepaa
open Go.RowKit
theorem ineqf_run {o : Oper} {a : Act} {W : World} (x y : Operand) (v : Int) (ho : o.op = .binOp .neq 3 x y 3) (hx : a.eval x = .int .i64 v) (hy : a.eval y = .int .i64 v) : (execOp a.eval o).run Try.prog W = .ok (.value (.bool false)) W := by
  have hv : (binOp .neq 3 (.int .i64 v) (.int .i64 v)).run Try.prog W = .ok (.bool false) W := by simp [go_sem]
  have hg : (eqGuard .neq 3 x y (.int .i64 v) (.int .i64 v)).run Try.prog W = .ok () W := by unfold eqGuard; rfl
  unfold execOp
  simp only [ho, hx, hy, Sem.run_bind, hg, Result.andThen_ok, hv, Sem.run_pure]
theorem next64 {k n m : Nat} (h : k < n) (h2 : n = m ∧ n ≤ 1000) : wrap64 ((k : Int) + 1) = ((k + 1 : Nat) : Int) := (Go.IntWalk.wrap64_in _ (by omega)).trans (Int.natCast_succ k).symm
theorem less64 {k n m : Nat} (h : k < n) (h2 : n = m ∧ n ≤ 1000) : n - (intOf (Value.int IntKind.i64 (wrap64 ((k : Int) + 1)))).toNat < n - (intOf (Value.int IntKind.i64 (k : Int))).toNat := by
  rw [next64 h h2]
  simp only [intOf, Int.toNat_natCast]
  omega
theorem ssUp16 {w w' : World} {A : Option Addr} {L : List Bs} (h : SS w w.heap.size A L) (hb : Below w.heap.size w w') : SS w' w'.heap.size A L := (h.below hb).more hb.size
def GivesL (L : List Bs) (n : Nat) (w : World) (e : Ending) (w' : World) : Prop := ∃ A c, e = .returned (.slice A n c) ∧ Hid (SS w' w'.heap.size A L) ∧ Hid (Below w.heap.size w w')
theorem givesL_of {L : List Bs} {n : Nat} (hn : n = L.length) {w w' : World} {e : Ending} (h : GivesStrs L w e w') : GivesL L n w e w' := by
  obtain ⟨A, c, h1, h2, _, _, h5⟩ := h
  exact ⟨A, c, by rw [h1, hn], h2, h5⟩
theorem alike_any {w0 w : World} {p : Nat} {F : Nat → Prop} {g : Gr} {A : Option Addr} {n : Nat} (dh : DH w0 w p F g) (rh : RH w0 w F A n g) (ok : GrOk g) (hg : g.length ≤ 1000) (hpl : ∀ k, k < g.length → (g.getD k nd0).preds.length ≤ 1000) (c : Nat) :
    Calls Try.prog 13 #[.pointer (some ⟨p, 0, none⟩), .agg #[.slice A n c]] w fun e w' => e = .returned (.bool true) ∧ Below w.heap.size w w' := by
  have hn := rh.len
  have hNL := rh.nl dh.below.size
  have hpl2 : ∀ k, k < g.length → (g.getD k nd0).preds.length ≤ 1000000 := fun k hk => by have := hpl k hk; omega
  obtain ⟨n5, hn5⟩ : ∃ x, x = (orderG g).length := ⟨_, rfl⟩
  have hgl : g.length = n5 := by rw [hn5, order_len ok]
  have HOr : Hid (∀ W, Below w.heap.size w W → Calls Try.prog 41 #[.agg #[.slice A n c]] W (GivesL (orderG g) n5 W)) := fun W hW => (rorder_any g ok A n c W hn (hNL.up hW) (by omega) hpl2).mono fun e w' hh => givesL_of hn5 hh
  have HLe : Hid (∀ W, Below w.heap.size w W → Calls Try.prog 30 #[.pointer (some ⟨p, 0, none⟩)] W fun e w' => e = .returned (.int .i64 ((n5 : Nat) : Int)) ∧ Below W.heap.size W w') := fun W hW => by
    rw [← hgl]
    exact daglen_any (dh.up hW).dag ok hg
  have HPO : Hid (∀ W, Below w.heap.size w W → Calls Try.prog 28 #[.pointer (some ⟨p, 0, none⟩)] W (GivesL (orderG g) n5 W)) := fun W hW => (dagorder_any (dh.up hW).dag ok hg).mono fun e w' hh => givesL_of hn5 hh
  obtain ⟨nh, hnh⟩ : ∃ x, x = (headsG g).length := ⟨_, rfl⟩
  have HHe : Hid (∀ W, Below w.heap.size w W → Calls Try.prog 34 #[.pointer (some ⟨p, 0, none⟩)] W (GivesL (headsG g) nh W)) := fun W hW => (dagheads_any (dh.up hW).dag ok hg).mono fun e w' hh => givesL_of hnh hh
  have HRH : Hid (∀ W, Below w.heap.size w W → Calls Try.prog 42 #[.agg #[.slice A n c]] W (GivesL (headsG g) nh W)) := fun W hW => (rheads_any g A n c W hn (hNL.up hW) (by omega) hpl2).mono fun e w' hh => givesL_of hnh hh
  have HTx : Hid (∀ (L : List Bs) (B C : Option Addr) (m b d : Nat) W, m = L.length → m ≤ 1000000 → SS W W.heap.size B L → SS W W.heap.size C L → Calls Try.prog 15 #[.slice B m b, .slice C m d] W fun e w' => e = .returned (.bool true) ∧ Below W.heap.size W w') := fun L B C m b d W h1 h2 h3 h4 => by
    have h := texts_any L L B C m b m d W.heap.size W h1 h1 h3 h4 h2 h2
    rw [decide_eq_true rfl] at h
    exact h
  have HX : Hid (∀ x, x ∈ orderG g → x.length ≤ 1000) := fun x hx => by
    have h1 := right_of ok ((order_mem ok x).1 hx)
    have h2 : x.length = 32 := by simpa [rightB] using h1
    omega
  have HPp : Hid (∀ (x : Bs) W, x.length ≤ 1000 → Below w.heap.size w W → Calls Try.prog 22 #[.pointer (some ⟨p, 0, none⟩), .string (text x)] W (GivesL (predsG g x) (predsG g x).length W)) := fun x W h1 hW => (dagpreds_any (dh.up hW).dag ok hg x h1).mono fun e w' hh => givesL_of rfl hh
  have HRP : Hid (∀ (x : Bs) W, Below w.heap.size w W → Calls Try.prog 23 #[.agg #[.slice A n c], .string (text x)] W (GivesL (predsG g x) (predsG g x).length W)) := fun x W hW => (rpredsg_any g x A n c W hn (hNL.up hW) (by omega)).mono fun e w' hh => by
    obtain ⟨B, b, q1, q2, q3, q4⟩ := hh
    exact ⟨B, b, q1, q2, q4⟩
  have HPk : Hid (∀ (x : Bs) W, x.length ≤ 1000 → Below w.heap.size w W → Calls Try.prog 24 #[.pointer (some ⟨p, 0, none⟩), .string (text x)] W (GivesL (kidsG g x) (kidsG g x).length W)) := fun x W h1 hW => (dagkids_any (dh.up hW).dag ok hg x h1).mono fun e w' hh => givesL_of rfl hh
  have HRK : Hid (∀ (x : Bs) W, Below w.heap.size w W → Calls Try.prog 25 #[.agg #[.slice A n c], .string (text x)] W (GivesL (kidsG g x) (kidsG g x).length W)) := fun x W hW => (rkids_any g x A n c W hn (hNL.up hW) (by omega) hpl2).mono fun e w' hh => givesL_of rfl hh
  have HPd : Hid (∀ (x : Bs) W, x.length ≤ 1000 → Below w.heap.size w W → Calls Try.prog 20 #[.pointer (some ⟨p, 0, none⟩), .string (text x)] W fun e w' => e = .returned (.int .i64 ((depthG g x : Nat) : Int)) ∧ Below W.heap.size W w') := fun x W h1 hW => dagdepth_any (dh.up hW).dag ok hg x h1
  have HRD : Hid (∀ (x : Bs) W, Below w.heap.size w W → Calls Try.prog 21 #[.agg #[.slice A n c], .string (text x)] W fun e w' => e = .returned (.int .i64 ((depthG g x : Nat) : Int)) ∧ Below W.heap.size W w') := fun x W hW => rdepth_any g ok x A n c W hn (hNL.up hW) (by omega) hpl2
  have HLp : Hid (∀ x, (predsG g x).length ≤ 1000000) := fun x => by
    by_cases hx : x ∈ idsG g
    · have := hpl (idxG g x) (idx_lt.2 hx)
      show (g.getD (idxG g x) nd0).preds.length ≤ _
      omega
    · rw [preds_no hx]
      exact Nat.zero_le _
  have HLk : Hid (∀ x, (kidsG g x).length ≤ 1000000) := fun x => by
    have h1 := (ofL_up ((g.filter fun n => hasL n.preds x).map (·.id))).imp (S := fun a b => a ≠ b) (fun h => less_ne h)
    have h2 := List.Nodup.length_le_of_subset (l₂ := idsG g) h1 (fun z hz => by
      have h3 := ((ofL_mem _ _).1 hz).1
      obtain ⟨nd, h4, rfl⟩ := List.mem_map.1 h3
      exact List.mem_map.2 ⟨nd, (List.mem_filter.1 h4).1, rfl⟩)
    rw [idsG_len] at h2
    show (ofL _).length ≤ _
    omega
  have HLh : Hid (nh ≤ 1000000) := by
    have h1 := (ofL_up ((g.filter fun n => (kidsG g n.id).isEmpty).map (·.id))).imp (S := fun a b => a ≠ b) (fun h => less_ne h)
    have h2 := List.Nodup.length_le_of_subset (l₂ := idsG g) h1 (fun z hz => by
      have h3 := ((ofL_mem _ _).1 hz).1
      obtain ⟨nd, h4, rfl⟩ := List.mem_map.1 h3
      exact List.mem_map.2 ⟨nd, (List.mem_filter.1 h4).1, rfl⟩)
    rw [idsG_len] at h2
    show nh ≤ _
    rw [hnh]
    show (ofL _).length ≤ _
    omega
  have HN5 : Hid (n5 = (orderG g).length ∧ n5 ≤ 1000) := ⟨hn5, by omega⟩
  have HNh := Lib.hid hnh
  obtain ⟨O, hO⟩ : ∃ o, o = orderG g := ⟨_, rfl⟩
  obtain ⟨H, hH⟩ : ∃ o, o = headsG g := ⟨_, rfl⟩
  rw [← hO] at HOr HPO HX HN5
  rw [← hH] at HHe HRH HNh
  clear hn hNL hpl2 hn5 hgl hnh hO hH dh rh ok hg hpl
  have a27 := fun w' => Try.dagAgg w'
  have s27 := fun w' => Try.dagSize w'
  obtain ⟨wb, hwb⟩ : ∃ wb, wb = w.alloc (.cells #[.slice A n c] 27) := ⟨_, rfl⟩
  have HV : Hid (DgV w wb A n c) := hwb
  have HWb := Lib.hid hwb
  clear hwb
  obtain ⟨c0, cl, cf⟩ := HV.out.cell (Below.refl _ _)
  have HSz : Hid (∀ W, Below wb.heap.size wb W → W.cell? ⟨w.heap.size, 0, none⟩ = some (.slice A n c)) := fun W hW => (HV.out.cell hW).1
  have HVb := Lib.hid HV.out.below
  have HB0 := Lib.hid HV.out.below
  rw [HWb.out] at c0 HB0
  go_enter Try.func13, Try.ntmps13
  go_upto_region 2 with (go_at_call 41; (with_reducible refine (HOr.out _ HB0.out).mono ?_); rintro e w1 ⟨A5, c5, rfl, s5, b1⟩)
  have HB1 : Hid (Below wb.heap.size wb w1) := by
    have h := b1.out
    rw [← HWb.out] at h
    exact h
  clear b1 c0 cl cf HB0
  have P0 : Below wb.heap.size wb w1.drew := HB1.out.drew
  have S0 : Below wb.heap.size wb w1.drew := P0
  have u5 : Below w1.heap.size w1 w1.drew := ⟨rfl, rfl, rfl, Nat.le_refl _, fun _ _ => rfl⟩
  refine region_T (fun W => Below wb.heap.size wb W) (fun j => decide (19 ≤ j)) (by kernel_rfl) ?_
  refine any_asT rfl (listed' := #[false, false, false, false, false, false, false, false, false, false, false, false, false, false, false, false, false, false, false, false]) (by kernel_rfl) ?_
  refine take_c (i := 0) (.pointer (some ⟨p, 0, none⟩)) 9 rfl (by kernel_rfl) (by kernel_rfl) (by kernel_rfl) (by kernel_rfl) (by kernel_rfl) rfl (by kernel_rfl) (by kernel_rfl) (fun W hW => by kernel_rfl) S0 (fun _ _ _ h => h) ?_
  simp only [Act.put, List.setIfInBounds_toArray, List.set_cons_zero, List.set_cons_succ]
  refine take_c (i := 2) (.slice A5 n5 c5) 11 rfl (by kernel_rfl) (by kernel_rfl) (by kernel_rfl) (by kernel_rfl) (by kernel_rfl) rfl (by kernel_rfl) (by kernel_rfl) (fun W hW => by kernel_rfl) S0 (fun _ _ _ h => h) ?_
  simp only [Act.put, List.setIfInBounds_toArray, List.set_cons_zero, List.set_cons_succ]
  refine take_c (i := 3) (.int .i64 ((n5 : Nat) : Int)) 12 rfl (by kernel_rfl) (by kernel_rfl) (by kernel_rfl) (by kernel_rfl) (by kernel_rfl) rfl (by kernel_rfl) (by kernel_rfl) (fun W hW => by kernel_rfl) S0 (fun _ _ _ h => h) ?_
  simp only [Act.put, List.setIfInBounds_toArray, List.set_cons_zero, List.set_cons_succ]
  refine any_comes (i := 1) (by kernel_rfl) (op_enter 30 #[.pointer (some ⟨p, 0, none⟩)] (some 10) rfl (by kernel_rfl) (by kernel_rfl) (by kernel_rfl) ((HLe.out _ (below16 HVb.out S0)).mono ?_))
  rintro e z1 ⟨rfl, e1⟩
  have S1 : Below wb.heap.size wb z1 := below16 S0 e1
  have hz1 : Below w1.heap.size w1 z1 := below16 u5 e1
  refine ⟨_, rfl, S1, ?_⟩
  simp only [Act.put, List.setIfInBounds_toArray, List.set_cons_zero, List.set_cons_succ]
  refine take_c (i := 4) (.bool false) 13 rfl (by kernel_rfl) (by kernel_rfl) (by kernel_rfl) (by kernel_rfl) (by kernel_rfl) rfl (by kernel_rfl) (by kernel_rfl) (fun W hW => ineqf_run (.tmp 10) (.tmp 12) ((n5 : Nat) : Int) (by kernel_rfl) (by kernel_rfl) (by kernel_rfl)) S1 (fun _ _ _ h => h) ?_
  simp only [Act.put, List.setIfInBounds_toArray, List.set_cons_zero, List.set_cons_succ]
  refine take_c (i := 5) (.bool false) 14 rfl (by kernel_rfl) (by kernel_rfl) (by kernel_rfl) (by kernel_rfl) (by kernel_rfl) rfl (by kernel_rfl) (by kernel_rfl) (fun W hW => by kernel_rfl) S1 (fun _ _ _ h => h) ?_
  simp only [Act.put, List.setIfInBounds_toArray, List.set_cons_zero, List.set_cons_succ]
  refine take_c (i := 6) (.pointer (some ⟨p, 0, none⟩)) 15 rfl (by kernel_rfl) (by kernel_rfl) (by kernel_rfl) (by kernel_rfl) (by kernel_rfl) rfl (by kernel_rfl) (by kernel_rfl) (fun W hW => by kernel_rfl) S1 (fun _ _ _ h => h) ?_
  simp only [Act.put, List.setIfInBounds_toArray, List.set_cons_zero, List.set_cons_succ]
  refine take_c (i := 8) (.slice A5 n5 c5) 17 rfl (by kernel_rfl) (by kernel_rfl) (by kernel_rfl) (by kernel_rfl) (by kernel_rfl) rfl (by kernel_rfl) (by kernel_rfl) (fun W hW => by kernel_rfl) S1 (fun _ _ _ h => h) ?_
  simp only [Act.put, List.setIfInBounds_toArray, List.set_cons_zero, List.set_cons_succ]
  refine any_comes (i := 7) (by kernel_rfl) (op_enter 28 #[.pointer (some ⟨p, 0, none⟩)] (some 16) rfl (by kernel_rfl) (by kernel_rfl) (by kernel_rfl) ((HPO.out _ (below16 HVb.out S1)).mono ?_))
  rintro e z2 ⟨A7, c7, rfl, s7, e2⟩
  have S2 : Below wb.heap.size wb z2 := below16 S1 e2.out
  have s52 := ssUp16 s5.out (below16 hz1 e2.out)
  refine ⟨_, rfl, S2, ?_⟩
  simp only [Act.put, List.setIfInBounds_toArray, List.set_cons_zero, List.set_cons_succ]
  refine any_comes (i := 9) (by kernel_rfl) (op_enter 15 #[.slice A7 n5 c7, .slice A5 n5 c5] (some 18) rfl (by kernel_rfl) (by kernel_rfl) (by kernel_rfl) ((HTx.out O A7 A5 n5 c7 c5 _ HN5.out.1 (by have := HN5.out.2; omega) s7.out s52).mono ?_))
  rintro e z3 ⟨rfl, e3⟩
  have S3 : Below wb.heap.size wb z3 := below16 S2 e3
  refine ⟨_, rfl, S3, ?_⟩
  simp only [Act.put, List.setIfInBounds_toArray, List.set_cons_zero, List.set_cons_succ]
  refine take_c (i := 10) (.bool false) 19 rfl (by kernel_rfl) (by kernel_rfl) (by kernel_rfl) (by kernel_rfl) (by kernel_rfl) rfl (by kernel_rfl) (by kernel_rfl) (fun W hW => by kernel_rfl) S3 (fun _ _ _ h => h) ?_
  simp only [Act.put, List.setIfInBounds_toArray, List.set_cons_zero, List.set_cons_succ]
  refine take_c (i := 11) (.bool false) 20 rfl (by kernel_rfl) (by kernel_rfl) (by kernel_rfl) (by kernel_rfl) (by kernel_rfl) rfl (by kernel_rfl) (by kernel_rfl) (fun W hW => by kernel_rfl) S3 (fun _ _ _ h => h) ?_
  simp only [Act.put, List.setIfInBounds_toArray, List.set_cons_zero, List.set_cons_succ]
  refine take_c (i := 12) (.bool false) 21 rfl (by kernel_rfl) (by kernel_rfl) (by kernel_rfl) (by kernel_rfl) (by kernel_rfl) rfl (by kernel_rfl) (by kernel_rfl) (fun W hW => by kernel_rfl) S3 (fun _ _ _ h => h) ?_
  simp only [Act.put, List.setIfInBounds_toArray, List.set_cons_zero, List.set_cons_succ]
  refine take_c (i := 13) (.pointer (some ⟨p, 0, none⟩)) 22 rfl (by kernel_rfl) (by kernel_rfl) (by kernel_rfl) (by kernel_rfl) (by kernel_rfl) rfl (by kernel_rfl) (by kernel_rfl) (fun W hW => by kernel_rfl) S3 (fun _ _ _ h => h) ?_
  simp only [Act.put, List.setIfInBounds_toArray, List.set_cons_zero, List.set_cons_succ]
  refine take_c (i := 15) (.agg #[.slice A n c]) 24 rfl (by kernel_rfl) (by kernel_rfl) (by kernel_rfl) (by kernel_rfl) (by kernel_rfl) rfl (by kernel_rfl) (by kernel_rfl) (fun W hW => dagload_run (.tmp 3) w.heap.size A n c (by kernel_rfl) (by kernel_rfl) (HSz.out W hW)) S3 (fun _ _ _ h => h) ?_
  simp only [Act.put, List.setIfInBounds_toArray, List.set_cons_zero, List.set_cons_succ]
  refine any_comes (i := 14) (by kernel_rfl) (op_enter 34 #[.pointer (some ⟨p, 0, none⟩)] (some 23) rfl (by kernel_rfl) (by kernel_rfl) (by kernel_rfl) ((HHe.out _ (below16 HVb.out S3)).mono ?_))
  rintro e z4 ⟨A8, c8, rfl, s8, e4⟩
  have S4 : Below wb.heap.size wb z4 := below16 S3 e4.out
  refine ⟨_, rfl, S4, ?_⟩
  simp only [Act.put, List.setIfInBounds_toArray, List.set_cons_zero, List.set_cons_succ]
  refine any_comes (i := 16) (by kernel_rfl) (op_enter 42 #[.agg #[.slice A n c]] (some 25) rfl (by kernel_rfl) (by kernel_rfl) (by kernel_rfl) ((HRH.out _ (below16 HVb.out S4)).mono ?_))
  rintro e z5 ⟨A9, c9, rfl, s9, e5⟩
  have S5 : Below wb.heap.size wb z5 := below16 S4 e5.out
  have s85 := ssUp16 s8.out e5.out
  refine ⟨_, rfl, S5, ?_⟩
  simp only [Act.put, List.setIfInBounds_toArray, List.set_cons_zero, List.set_cons_succ]
  refine any_comes (i := 17) (by kernel_rfl) (op_enter 15 #[.slice A8 nh c8, .slice A9 nh c9] (some 26) rfl (by kernel_rfl) (by kernel_rfl) (by kernel_rfl) ((HTx.out H A8 A9 nh c8 c9 _ HNh.out HLh.out s85 s9.out).mono ?_))
  rintro e z6 ⟨rfl, e6x⟩
  have S6 : Below wb.heap.size wb z6 := below16 S5 e6x
  have e6 : Below z1.heap.size z1 z6 := below16 (below16 (below16 (below16 e2.out e3) e4.out) e5.out) e6x
  refine ⟨_, rfl, S6, ?_⟩
  simp only [Act.put, List.setIfInBounds_toArray, List.set_cons_zero, List.set_cons_succ]
  refine take_c (i := 18) (.bool false) 27 rfl (by kernel_rfl) (by kernel_rfl) (by kernel_rfl) (by kernel_rfl) (by kernel_rfl) rfl (by kernel_rfl) (by kernel_rfl) (fun W hW => by kernel_rfl) S6 (fun _ _ _ h => h) ?_
  simp only [Act.put, List.setIfInBounds_toArray, List.set_cons_zero, List.set_cons_succ]
  refine any_left (by kernel_rfl) ?_
  refine wpAny_tail 19 (by kernel_rfl) (by kernel_rfl) ?_
  simp only [List.append, List.append_eq, List.drop_succ_cons, List.drop_zero]
  go_wp2
  have HB2 := Lib.hid (show Below wb.heap.size wb z6 from S6)
  have s6 := Lib.hid (ssUp16 (w' := z6) s5.out (hz1.trans (e6.mono hz1.size)))
  clear S0 S1 S2 S3 S4 S5 S6 s52 s7 s8 s9 s85 e1 e2 e3 e4 e5 e6 e6x hz1 u5 P0
  go_loopw [6] (fun v wr => ∃ k : Nat, k ≤ n5 ∧ v = .int .i64 (k : Int) ∧ Hid (Below z6.heap.size z6 wr)) (fun v _ => n5 - (intOf v).toNat)
  case atStart => exact ⟨0, Nat.zero_le _, rfl, Below.refl _ _⟩
  case round =>
    obtain ⟨k, hk, rfl, HBr⟩ := hrel
    by_cases hlt : k < n5
    · have d0 : decide ((k : Int) < (n5 : Int)) = true := decide_eq_true (by omega)
      have hkO : k < O.length := by have := HN5.out.1; omega
      obtain ⟨ob, oo, rfl, hob, hoc⟩ := s6.out.at_ (by omega)
      have hok := hoc k hkO
      obtain ⟨x, hx⟩ : ∃ x, x = O.getD k [] := ⟨_, rfl⟩
      rw [← hx] at hok
      have hxm : x ∈ O := by
        rw [hx, List.getD, List.getElem?_eq_getElem hkO]
        exact List.getElem_mem hkO
      have hxl := HX.out x hxm
      obtain ⟨t, ht⟩ : ∃ t, t = text x := ⟨_, rfl⟩
      rw [← ht] at hok
      have HE : Hid (∀ W, Below z6.heap.size z6 W → W.cell? ⟨ob, oo + k, none⟩ = some (.string t)) := fun W hW => (hW.cell (p := ⟨ob, oo + k, none⟩) hob).trans hok
      have HPp2 := Lib.hid (fun W hW => HPp.out x W hxl hW)
      have HRP2 := Lib.hid (HRP.out x)
      have HPk2 := Lib.hid (fun W hW => HPk.out x W hxl hW)
      have HRK2 := Lib.hid (HRK.out x)
      have HPd2 := Lib.hid (fun W hW => HPd.out x W hxl hW)
      have HRD2 := Lib.hid (HRD.out x)
      have HLp2 := Lib.hid (HLp.out x)
      have HLk2 := Lib.hid (HLk.out x)
      rw [← ht] at HPp2 HRP2 HPk2 HRK2 HPd2 HRD2
      obtain ⟨lp, hlp⟩ : ∃ l, l = predsG g x := ⟨_, rfl⟩
      obtain ⟨lk, hlk⟩ : ∃ l, l = kidsG g x := ⟨_, rfl⟩
      obtain ⟨dd, hdd⟩ : ∃ l, l = depthG g x := ⟨_, rfl⟩
      rw [← hlp] at HPp2 HRP2 HLp2
      rw [← hlk] at HPk2 HRK2 HLk2
      rw [← hdd] at HPd2 HRD2
      obtain ⟨np, hnp⟩ : ∃ l, l = lp.length := ⟨_, rfl⟩
      obtain ⟨nk, hnk⟩ : ∃ l, l = lk.length := ⟨_, rfl⟩
      rw [← hnp] at HPp2 HRP2 HLp2
      rw [← hnk] at HPk2 HRK2 HLk2
      have HNp := Lib.hid hnp
      have HNk := Lib.hid hnk
      clear hx hxm hxl ht hok hoc hob hkO hlp hlk hdd hnp hnk
      go_wp2
      have S0 : Below z6.heap.size z6 wr.drew := HBr.out.drew
      refine region_T (fun W => Below z6.heap.size z6 W) (fun j => decide (44 ≤ j)) (by kernel_rfl) ?_
      refine any_asT rfl (listed' := #[false, false, false, false, false, false, false, false, false, false, false, false, false, false, false, false, false, false, false, false, false, false, false, false, false, false, false, false, false, false, false, false, false, false, false, false, false, false, false, false, false, false, false, false, false]) (by kernel_rfl) ?_
      refine take_c (i := 0) (.pointer (some ⟨p, 0, none⟩)) 35 rfl (by kernel_rfl) (by kernel_rfl) (by kernel_rfl) (by kernel_rfl) (by kernel_rfl) rfl (by kernel_rfl) (by kernel_rfl) (fun W hW => by kernel_rfl) S0 (fun _ _ _ h => h) ?_
      simp only [Act.put, List.setIfInBounds_toArray, List.set_cons_zero, List.set_cons_succ]
      refine take_c (i := 1) (.slice (some ⟨ob, oo, none⟩) n5 c5) 36 rfl (by kernel_rfl) (by kernel_rfl) (by kernel_rfl) (by kernel_rfl) (by kernel_rfl) rfl (by kernel_rfl) (by kernel_rfl) (fun W hW => by kernel_rfl) S0 (fun _ _ _ h => h) ?_
      simp only [Act.put, List.setIfInBounds_toArray, List.set_cons_zero, List.set_cons_succ]
      refine take_c (i := 2) (.int .i64 (k : Int)) 37 rfl (by kernel_rfl) (by kernel_rfl) (by kernel_rfl) (by kernel_rfl) (by kernel_rfl) rfl (by kernel_rfl) (by kernel_rfl) (fun W hW => by kernel_rfl) S0 (fun _ _ _ h => h) ?_
      simp only [Act.put, List.setIfInBounds_toArray, List.set_cons_zero, List.set_cons_succ]
      refine take_c (i := 3) (.pointer (some ⟨ob, oo + k, none⟩)) 38 rfl (by kernel_rfl) (by kernel_rfl) (by kernel_rfl) (by kernel_rfl) (by kernel_rfl) rfl (by kernel_rfl) (by kernel_rfl) (fun W hW => sidx_run (.tmp 36) (.tmp 37) ob oo n5 c5 k (by kernel_rfl) (by kernel_rfl) (by kernel_rfl) hlt) S0 (fun _ _ _ h => h) ?_
      simp only [Act.put, List.setIfInBounds_toArray, List.set_cons_zero, List.set_cons_succ]
      refine take_c (i := 4) (.string t) 39 rfl (by kernel_rfl) (by kernel_rfl) (by kernel_rfl) (by kernel_rfl) (by kernel_rfl) rfl (by kernel_rfl) (by kernel_rfl) (fun W hW => cell_run 9 (.tmp 38) ⟨ob, oo + k, none⟩ (.string t) _ (by kernel_rfl) (by kernel_rfl) (HE.out W hW) Try.underlying9 rfl (by kernel_rfl)) S0 (fun _ _ _ h => h) ?_
      simp only [Act.put, List.setIfInBounds_toArray, List.set_cons_zero, List.set_cons_succ]
      refine take_c (i := 6) (.agg #[.slice A n c]) 41 rfl (by kernel_rfl) (by kernel_rfl) (by kernel_rfl) (by kernel_rfl) (by kernel_rfl) rfl (by kernel_rfl) (by kernel_rfl) (fun W hW => dagload_run (.tmp 3) w.heap.size A n c (by kernel_rfl) (by kernel_rfl) (HSz.out W (below16 HB2.out hW))) S0 (fun _ _ _ h => h) ?_
      simp only [Act.put, List.setIfInBounds_toArray, List.set_cons_zero, List.set_cons_succ]
      refine take_c (i := 7) (.slice (some ⟨ob, oo, none⟩) n5 c5) 42 rfl (by kernel_rfl) (by kernel_rfl) (by kernel_rfl) (by kernel_rfl) (by kernel_rfl) rfl (by kernel_rfl) (by kernel_rfl) (fun W hW => by kernel_rfl) S0 (fun _ _ _ h => h) ?_
      simp only [Act.put, List.setIfInBounds_toArray, List.set_cons_zero, List.set_cons_succ]
      refine take_c (i := 8) (.int .i64 (k : Int)) 43 rfl (by kernel_rfl) (by kernel_rfl) (by kernel_rfl) (by kernel_rfl) (by kernel_rfl) rfl (by kernel_rfl) (by kernel_rfl) (fun W hW => by kernel_rfl) S0 (fun _ _ _ h => h) ?_
      simp only [Act.put, List.setIfInBounds_toArray, List.set_cons_zero, List.set_cons_succ]
      refine take_c (i := 9) (.pointer (some ⟨ob, oo + k, none⟩)) 44 rfl (by kernel_rfl) (by kernel_rfl) (by kernel_rfl) (by kernel_rfl) (by kernel_rfl) rfl (by kernel_rfl) (by kernel_rfl) (fun W hW => sidx_run (.tmp 42) (.tmp 43) ob oo n5 c5 k (by kernel_rfl) (by kernel_rfl) (by kernel_rfl) hlt) S0 (fun _ _ _ h => h) ?_
      simp only [Act.put, List.setIfInBounds_toArray, List.set_cons_zero, List.set_cons_succ]
      refine take_c (i := 10) (.string t) 45 rfl (by kernel_rfl) (by kernel_rfl) (by kernel_rfl) (by kernel_rfl) (by kernel_rfl) rfl (by kernel_rfl) (by kernel_rfl) (fun W hW => cell_run 9 (.tmp 44) ⟨ob, oo + k, none⟩ (.string t) _ (by kernel_rfl) (by kernel_rfl) (HE.out W hW) Try.underlying9 rfl (by kernel_rfl)) S0 (fun _ _ _ h => h) ?_
      simp only [Act.put, List.setIfInBounds_toArray, List.set_cons_zero, List.set_cons_succ]
      refine any_comes (i := 5) (by kernel_rfl) (op_enter 22 #[.pointer (some ⟨p, 0, none⟩), .string t] (some 40) rfl (by kernel_rfl) (by kernel_rfl) (by kernel_rfl) ((HPp2.out _ (below16 (below16 HVb.out HB2.out) S0)).mono ?_))
      rintro e y1 ⟨B1, b1, rfl, s1, e1⟩
      have S1 : Below z6.heap.size z6 y1 := below16 S0 e1.out
      refine ⟨_, rfl, S1, ?_⟩
      simp only [Act.put, List.setIfInBounds_toArray, List.set_cons_zero, List.set_cons_succ]
      refine any_comes (i := 11) (by kernel_rfl) (op_enter 23 #[.agg #[.slice A n c], .string t] (some 46) rfl (by kernel_rfl) (by kernel_rfl) (by kernel_rfl) ((HRP2.out _ (below16 (below16 HVb.out HB2.out) S1)).mono ?_))
      rintro e y2 ⟨B2, b2, rfl, s2, e2⟩
      have S2 : Below z6.heap.size z6 y2 := below16 S1 e2.out
      have s12 := ssUp16 s1.out e2.out
      refine ⟨_, rfl, S2, ?_⟩
      simp only [Act.put, List.setIfInBounds_toArray, List.set_cons_zero, List.set_cons_succ]
      refine any_comes (i := 12) (by kernel_rfl) (op_enter 15 #[.slice B1 np b1, .slice B2 np b2] (some 47) rfl (by kernel_rfl) (by kernel_rfl) (by kernel_rfl) ((HTx.out lp B1 B2 np b1 b2 _ HNp.out HLp2.out s12 s2.out).mono ?_))
      rintro e y3 ⟨rfl, e3⟩
      have S3 : Below z6.heap.size z6 y3 := below16 S2 e3
      refine ⟨_, rfl, S3, ?_⟩
      simp only [Act.put, List.setIfInBounds_toArray, List.set_cons_zero, List.set_cons_succ]
      refine take_c (i := 13) (.bool false) 48 rfl (by kernel_rfl) (by kernel_rfl) (by kernel_rfl) (by kernel_rfl) (by kernel_rfl) rfl (by kernel_rfl) (by kernel_rfl) (fun W hW => by kernel_rfl) S3 (fun _ _ _ h => h) ?_
      simp only [Act.put, List.setIfInBounds_toArray, List.set_cons_zero, List.set_cons_succ]
      refine take_c (i := 14) (.bool false) 49 rfl (by kernel_rfl) (by kernel_rfl) (by kernel_rfl) (by kernel_rfl) (by kernel_rfl) rfl (by kernel_rfl) (by kernel_rfl) (fun W hW => by kernel_rfl) S3 (fun _ _ _ h => h) ?_
      simp only [Act.put, List.setIfInBounds_toArray, List.set_cons_zero, List.set_cons_succ]
      refine take_c (i := 15) (.pointer (some ⟨p, 0, none⟩)) 50 rfl (by kernel_rfl) (by kernel_rfl) (by kernel_rfl) (by kernel_rfl) (by kernel_rfl) rfl (by kernel_rfl) (by kernel_rfl) (fun W hW => by kernel_rfl) S3 (fun _ _ _ h => h) ?_
      simp only [Act.put, List.setIfInBounds_toArray, List.set_cons_zero, List.set_cons_succ]
      refine take_c (i := 16) (.slice (some ⟨ob, oo, none⟩) n5 c5) 51 rfl (by kernel_rfl) (by kernel_rfl) (by kernel_rfl) (by kernel_rfl) (by kernel_rfl) rfl (by kernel_rfl) (by kernel_rfl) (fun W hW => by kernel_rfl) S3 (fun _ _ _ h => h) ?_
      simp only [Act.put, List.setIfInBounds_toArray, List.set_cons_zero, List.set_cons_succ]
      refine take_c (i := 17) (.int .i64 (k : Int)) 52 rfl (by kernel_rfl) (by kernel_rfl) (by kernel_rfl) (by kernel_rfl) (by kernel_rfl) rfl (by kernel_rfl) (by kernel_rfl) (fun W hW => by kernel_rfl) S3 (fun _ _ _ h => h) ?_
      simp only [Act.put, List.setIfInBounds_toArray, List.set_cons_zero, List.set_cons_succ]
      refine take_c (i := 18) (.pointer (some ⟨ob, oo + k, none⟩)) 53 rfl (by kernel_rfl) (by kernel_rfl) (by kernel_rfl) (by kernel_rfl) (by kernel_rfl) rfl (by kernel_rfl) (by kernel_rfl) (fun W hW => sidx_run (.tmp 51) (.tmp 52) ob oo n5 c5 k (by kernel_rfl) (by kernel_rfl) (by kernel_rfl) hlt) S3 (fun _ _ _ h => h) ?_
      simp only [Act.put, List.setIfInBounds_toArray, List.set_cons_zero, List.set_cons_succ]
      refine take_c (i := 19) (.string t) 54 rfl (by kernel_rfl) (by kernel_rfl) (by kernel_rfl) (by kernel_rfl) (by kernel_rfl) rfl (by kernel_rfl) (by kernel_rfl) (fun W hW => cell_run 9 (.tmp 53) ⟨ob, oo + k, none⟩ (.string t) _ (by kernel_rfl) (by kernel_rfl) (HE.out W hW) Try.underlying9 rfl (by kernel_rfl)) S3 (fun _ _ _ h => h) ?_
      simp only [Act.put, List.setIfInBounds_toArray, List.set_cons_zero, List.set_cons_succ]
      refine take_c (i := 21) (.agg #[.slice A n c]) 56 rfl (by kernel_rfl) (by kernel_rfl) (by kernel_rfl) (by kernel_rfl) (by kernel_rfl) rfl (by kernel_rfl) (by kernel_rfl) (fun W hW => dagload_run (.tmp 3) w.heap.size A n c (by kernel_rfl) (by kernel_rfl) (HSz.out W (below16 HB2.out hW))) S3 (fun _ _ _ h => h) ?_
      simp only [Act.put, List.setIfInBounds_toArray, List.set_cons_zero, List.set_cons_succ]
      refine take_c (i := 22) (.slice (some ⟨ob, oo, none⟩) n5 c5) 57 rfl (by kernel_rfl) (by kernel_rfl) (by kernel_rfl) (by kernel_rfl) (by kernel_rfl) rfl (by kernel_rfl) (by kernel_rfl) (fun W hW => by kernel_rfl) S3 (fun _ _ _ h => h) ?_
      simp only [Act.put, List.setIfInBounds_toArray, List.set_cons_zero, List.set_cons_succ]
      refine take_c (i := 23) (.int .i64 (k : Int)) 58 rfl (by kernel_rfl) (by kernel_rfl) (by kernel_rfl) (by kernel_rfl) (by kernel_rfl) rfl (by kernel_rfl) (by kernel_rfl) (fun W hW => by kernel_rfl) S3 (fun _ _ _ h => h) ?_
      simp only [Act.put, List.setIfInBounds_toArray, List.set_cons_zero, List.set_cons_succ]
      refine take_c (i := 24) (.pointer (some ⟨ob, oo + k, none⟩)) 59 rfl (by kernel_rfl) (by kernel_rfl) (by kernel_rfl) (by kernel_rfl) (by kernel_rfl) rfl (by kernel_rfl) (by kernel_rfl) (fun W hW => sidx_run (.tmp 57) (.tmp 58) ob oo n5 c5 k (by kernel_rfl) (by kernel_rfl) (by kernel_rfl) hlt) S3 (fun _ _ _ h => h) ?_
      simp only [Act.put, List.setIfInBounds_toArray, List.set_cons_zero, List.set_cons_succ]
      refine take_c (i := 25) (.string t) 60 rfl (by kernel_rfl) (by kernel_rfl) (by kernel_rfl) (by kernel_rfl) (by kernel_rfl) rfl (by kernel_rfl) (by kernel_rfl) (fun W hW => cell_run 9 (.tmp 59) ⟨ob, oo + k, none⟩ (.string t) _ (by kernel_rfl) (by kernel_rfl) (HE.out W hW) Try.underlying9 rfl (by kernel_rfl)) S3 (fun _ _ _ h => h) ?_
      simp only [Act.put, List.setIfInBounds_toArray, List.set_cons_zero, List.set_cons_succ]
      refine any_comes (i := 20) (by kernel_rfl) (op_enter 24 #[.pointer (some ⟨p, 0, none⟩), .string t] (some 55) rfl (by kernel_rfl) (by kernel_rfl) (by kernel_rfl) ((HPk2.out _ (below16 (below16 HVb.out HB2.out) S3)).mono ?_))
      rintro e y4 ⟨B3, b3, rfl, s3, e4⟩
      have S4 : Below z6.heap.size z6 y4 := below16 S3 e4.out
      refine ⟨_, rfl, S4, ?_⟩
      simp only [Act.put, List.setIfInBounds_toArray, List.set_cons_zero, List.set_cons_succ]
      refine any_comes (i := 26) (by kernel_rfl) (op_enter 25 #[.agg #[.slice A n c], .string t] (some 61) rfl (by kernel_rfl) (by kernel_rfl) (by kernel_rfl) ((HRK2.out _ (below16 (below16 HVb.out HB2.out) S4)).mono ?_))
      rintro e y5 ⟨B4, b4, rfl, s4, e5⟩
      have S5 : Below z6.heap.size z6 y5 := below16 S4 e5.out
      have s34 := ssUp16 s3.out e5.out
      refine ⟨_, rfl, S5, ?_⟩
      simp only [Act.put, List.setIfInBounds_toArray, List.set_cons_zero, List.set_cons_succ]
      refine any_comes (i := 27) (by kernel_rfl) (op_enter 15 #[.slice B3 nk b3, .slice B4 nk b4] (some 62) rfl (by kernel_rfl) (by kernel_rfl) (by kernel_rfl) ((HTx.out lk B3 B4 nk b3 b4 _ HNk.out HLk2.out s34 s4.out).mono ?_))
      rintro e y6 ⟨rfl, e6⟩
      have S6 : Below z6.heap.size z6 y6 := below16 S5 e6
      refine ⟨_, rfl, S6, ?_⟩
      simp only [Act.put, List.setIfInBounds_toArray, List.set_cons_zero, List.set_cons_succ]
      refine take_c (i := 28) (.bool false) 63 rfl (by kernel_rfl) (by kernel_rfl) (by kernel_rfl) (by kernel_rfl) (by kernel_rfl) rfl (by kernel_rfl) (by kernel_rfl) (fun W hW => by kernel_rfl) S6 (fun _ _ _ h => h) ?_
      simp only [Act.put, List.setIfInBounds_toArray, List.set_cons_zero, List.set_cons_succ]
      refine take_c (i := 29) (.bool false) 64 rfl (by kernel_rfl) (by kernel_rfl) (by kernel_rfl) (by kernel_rfl) (by kernel_rfl) rfl (by kernel_rfl) (by kernel_rfl) (fun W hW => by kernel_rfl) S6 (fun _ _ _ h => h) ?_
      simp only [Act.put, List.setIfInBounds_toArray, List.set_cons_zero, List.set_cons_succ]
      refine take_c (i := 30) (.bool false) 65 rfl (by kernel_rfl) (by kernel_rfl) (by kernel_rfl) (by kernel_rfl) (by kernel_rfl) rfl (by kernel_rfl) (by kernel_rfl) (fun W hW => by kernel_rfl) S6 (fun _ _ _ h => h) ?_
      simp only [Act.put, List.setIfInBounds_toArray, List.set_cons_zero, List.set_cons_succ]
      refine take_c (i := 31) (.pointer (some ⟨p, 0, none⟩)) 66 rfl (by kernel_rfl) (by kernel_rfl) (by kernel_rfl) (by kernel_rfl) (by kernel_rfl) rfl (by kernel_rfl) (by kernel_rfl) (fun W hW => by kernel_rfl) S6 (fun _ _ _ h => h) ?_
      simp only [Act.put, List.setIfInBounds_toArray, List.set_cons_zero, List.set_cons_succ]
      refine take_c (i := 32) (.slice (some ⟨ob, oo, none⟩) n5 c5) 67 rfl (by kernel_rfl) (by kernel_rfl) (by kernel_rfl) (by kernel_rfl) (by kernel_rfl) rfl (by kernel_rfl) (by kernel_rfl) (fun W hW => by kernel_rfl) S6 (fun _ _ _ h => h) ?_
      simp only [Act.put, List.setIfInBounds_toArray, List.set_cons_zero, List.set_cons_succ]
      refine take_c (i := 33) (.int .i64 (k : Int)) 68 rfl (by kernel_rfl) (by kernel_rfl) (by kernel_rfl) (by kernel_rfl) (by kernel_rfl) rfl (by kernel_rfl) (by kernel_rfl) (fun W hW => by kernel_rfl) S6 (fun _ _ _ h => h) ?_
      simp only [Act.put, List.setIfInBounds_toArray, List.set_cons_zero, List.set_cons_succ]
      refine take_c (i := 34) (.pointer (some ⟨ob, oo + k, none⟩)) 69 rfl (by kernel_rfl) (by kernel_rfl) (by kernel_rfl) (by kernel_rfl) (by kernel_rfl) rfl (by kernel_rfl) (by kernel_rfl) (fun W hW => sidx_run (.tmp 67) (.tmp 68) ob oo n5 c5 k (by kernel_rfl) (by kernel_rfl) (by kernel_rfl) hlt) S6 (fun _ _ _ h => h) ?_
      simp only [Act.put, List.setIfInBounds_toArray, List.set_cons_zero, List.set_cons_succ]
      refine take_c (i := 35) (.string t) 70 rfl (by kernel_rfl) (by kernel_rfl) (by kernel_rfl) (by kernel_rfl) (by kernel_rfl) rfl (by kernel_rfl) (by kernel_rfl) (fun W hW => cell_run 9 (.tmp 69) ⟨ob, oo + k, none⟩ (.string t) _ (by kernel_rfl) (by kernel_rfl) (HE.out W hW) Try.underlying9 rfl (by kernel_rfl)) S6 (fun _ _ _ h => h) ?_
      simp only [Act.put, List.setIfInBounds_toArray, List.set_cons_zero, List.set_cons_succ]
      refine take_c (i := 37) (.agg #[.slice A n c]) 72 rfl (by kernel_rfl) (by kernel_rfl) (by kernel_rfl) (by kernel_rfl) (by kernel_rfl) rfl (by kernel_rfl) (by kernel_rfl) (fun W hW => dagload_run (.tmp 3) w.heap.size A n c (by kernel_rfl) (by kernel_rfl) (HSz.out W (below16 HB2.out hW))) S6 (fun _ _ _ h => h) ?_
      simp only [Act.put, List.setIfInBounds_toArray, List.set_cons_zero, List.set_cons_succ]
      refine take_c (i := 38) (.slice (some ⟨ob, oo, none⟩) n5 c5) 73 rfl (by kernel_rfl) (by kernel_rfl) (by kernel_rfl) (by kernel_rfl) (by kernel_rfl) rfl (by kernel_rfl) (by kernel_rfl) (fun W hW => by kernel_rfl) S6 (fun _ _ _ h => h) ?_
      simp only [Act.put, List.setIfInBounds_toArray, List.set_cons_zero, List.set_cons_succ]
      refine take_c (i := 39) (.int .i64 (k : Int)) 74 rfl (by kernel_rfl) (by kernel_rfl) (by kernel_rfl) (by kernel_rfl) (by kernel_rfl) rfl (by kernel_rfl) (by kernel_rfl) (fun W hW => by kernel_rfl) S6 (fun _ _ _ h => h) ?_
      simp only [Act.put, List.setIfInBounds_toArray, List.set_cons_zero, List.set_cons_succ]
      refine take_c (i := 40) (.pointer (some ⟨ob, oo + k, none⟩)) 75 rfl (by kernel_rfl) (by kernel_rfl) (by kernel_rfl) (by kernel_rfl) (by kernel_rfl) rfl (by kernel_rfl) (by kernel_rfl) (fun W hW => sidx_run (.tmp 73) (.tmp 74) ob oo n5 c5 k (by kernel_rfl) (by kernel_rfl) (by kernel_rfl) hlt) S6 (fun _ _ _ h => h) ?_
      simp only [Act.put, List.setIfInBounds_toArray, List.set_cons_zero, List.set_cons_succ]
      refine take_c (i := 41) (.string t) 76 rfl (by kernel_rfl) (by kernel_rfl) (by kernel_rfl) (by kernel_rfl) (by kernel_rfl) rfl (by kernel_rfl) (by kernel_rfl) (fun W hW => cell_run 9 (.tmp 75) ⟨ob, oo + k, none⟩ (.string t) _ (by kernel_rfl) (by kernel_rfl) (HE.out W hW) Try.underlying9 rfl (by kernel_rfl)) S6 (fun _ _ _ h => h) ?_
      simp only [Act.put, List.setIfInBounds_toArray, List.set_cons_zero, List.set_cons_succ]
      refine any_comes (i := 36) (by kernel_rfl) (op_enter 20 #[.pointer (some ⟨p, 0, none⟩), .string t] (some 71) rfl (by kernel_rfl) (by kernel_rfl) (by kernel_rfl) ((HPd2.out _ (below16 (below16 HVb.out HB2.out) S6)).mono ?_))
      rintro e y7 ⟨rfl, e7⟩
      have S7 : Below z6.heap.size z6 y7 := below16 S6 e7
      refine ⟨_, rfl, S7, ?_⟩
      simp only [Act.put, List.setIfInBounds_toArray, List.set_cons_zero, List.set_cons_succ]
      refine any_comes (i := 42) (by kernel_rfl) (op_enter 21 #[.agg #[.slice A n c], .string t] (some 77) rfl (by kernel_rfl) (by kernel_rfl) (by kernel_rfl) ((HRD2.out _ (below16 (below16 HVb.out HB2.out) S7)).mono ?_))
      rintro e y8 ⟨rfl, e8⟩
      have S8 : Below z6.heap.size z6 y8 := below16 S7 e8
      refine ⟨_, rfl, S8, ?_⟩
      simp only [Act.put, List.setIfInBounds_toArray, List.set_cons_zero, List.set_cons_succ]
      refine take_c (i := 43) (.bool false) 78 rfl (by kernel_rfl) (by kernel_rfl) (by kernel_rfl) (by kernel_rfl) (by kernel_rfl) rfl (by kernel_rfl) (by kernel_rfl) (fun W hW => ineqf_run (.tmp 71) (.tmp 77) ((dd : Nat) : Int) (by kernel_rfl) (by kernel_rfl) (by kernel_rfl)) S8 (fun _ _ _ h => h) ?_
      simp only [Act.put, List.setIfInBounds_toArray, List.set_cons_zero, List.set_cons_succ]
      refine any_left (by kernel_rfl) ?_
      refine wpAny_tail 44 (by kernel_rfl) (by kernel_rfl) ?_
      simp only [List.append, List.append_eq, List.drop_succ_cons, List.drop_zero]
      go_wp2
      go_roundw
      case rel => exact ⟨k + 1, hlt, congrArg (Value.int .i64) (next64 hlt HN5.out), S8⟩
      case measure => exact less64 hlt HN5.out
    · have d0 : decide ((k : Int) < (n5 : Int)) = false := decide_eq_false (by omega)
      go_wp2
      go_ret
      exact ⟨rfl, below16 (below16 HVb.out HB2.out) HBr.out⟩
end Go.Proofs.Ytbeihiokjhfepaa
