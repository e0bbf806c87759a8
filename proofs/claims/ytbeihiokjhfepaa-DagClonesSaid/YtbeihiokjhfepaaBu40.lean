/- Lemmas under the proofs of this place: DagAsksA. No statement is proved here. -/
import Derived.Test.YtbeihiokjhfepaaBu39
import Derived.Test.YtbeihiokjhfepaaBu18
import Derived.Deep.Cut
set_option linter.unusedSimpArgs false
set_option linter.unusedVariables false
set_option maxRecDepth 100000
set_option maxHeartbeats 16000000
namespace Go.Proofs.Ytbeihiokjhfepaa
open Go.RowKit
theorem kids_len (g : Gr) (x : Bs) : (kidsG g x).length ≤ g.length := by
  have h1 := (ofL_up ((g.filter fun n => hasL n.preds x).map (·.id))).imp (S := fun a b => a ≠ b) (fun h => less_ne h)
  have h2 := List.Nodup.length_le_of_subset (l₂ := idsG g) h1 (fun z hz => by
    have h3 := ((ofL_mem _ _).1 hz).1
    obtain ⟨nd, h4, rfl⟩ := List.mem_map.1 h3
    exact List.mem_map.2 ⟨nd, (List.mem_filter.1 h4).1, rfl⟩)
  rw [idsG_len] at h2
  exact h2
theorem bneqf_run {o : Oper} {a : Act} {W : World} (x y : Operand) (v : Bool) (ho : o.op = .binOp .neq 4 x y 4) (hx : a.eval x = .bool v) (hy : a.eval y = .bool v) : (execOp a.eval o).run Try.prog W = .ok (.value (.bool false)) W := by
  have hv : (binOp .neq 4 (.bool v) (.bool v)).run Try.prog W = .ok (.bool false) W := by simp [go_sem]
  have hg : (eqGuard .neq 4 x y (.bool v) (.bool v)).run Try.prog W = .ok () W := by unfold eqGuard; rfl
  unfold execOp
  simp only [ho, hx, hy, Sem.run_bind, hg, Result.andThen_ok, hv, Sem.run_pure]
theorem AV.made {w W : World} {p : Nat} {F : Nat → Prop} {A : Option Addr} {n c : Nat} {g : Gr} (hD : DH w W p F g) (hR : RH w W F A n g) : AV w (W.alloc (.cells #[.slice A n c] 27)) W.heap.size p F A n c g := by
  have n1 : Below W.heap.size W (W.alloc (.cells #[.slice A n c] 27)) := (Below.refl _ _).alloc (Nat.le_refl _) _
  refine ⟨hD.up n1, hR.up hD.below.size n1, Blk.new _ _ _, fun hk => ?_, hD.below.size⟩
  have := hD.flt _ hk
  omega
structure RAsks (G : Gr) (A : Option Addr) (n c : Nat) (W0 : World) : Prop where
  ahead : ∀ x y, ∀ W, Below W0.heap.size W0 W → Calls Try.prog 27 #[.agg #[.slice A n c], .string (text x), .string (text y)] W fun e w' => e = .returned (.bool (aheadG G x y)) ∧ Hid (Below W0.heap.size W0 w')
  depth : ∀ x, ∀ W, Below W0.heap.size W0 W → Calls Try.prog 21 #[.agg #[.slice A n c], .string (text x)] W fun e w' => e = .returned (.int .i64 ((depthG G x : Nat) : Int)) ∧ Hid (Below W0.heap.size W0 w')
  has : ∀ x, ∀ W, Below W0.heap.size W0 W → Calls Try.prog 19 #[.agg #[.slice A n c], .string (text x)] W fun e w' => e = .returned (.bool (hasG G x)) ∧ Hid (Below W0.heap.size W0 w')
  preds : ∀ x, ∀ W, Below W0.heap.size W0 W → Calls Try.prog 23 #[.agg #[.slice A n c], .string (text x)] W (GivesL (predsG G x) (predsG G x).length W)
  kids : ∀ x, ∀ W, Below W0.heap.size W0 W → Calls Try.prog 25 #[.agg #[.slice A n c], .string (text x)] W (GivesL (kidsG G x) (kidsG G x).length W)
theorem rasks_of {w W0 : World} {E : Nat → Prop} {A : Option Addr} {n : Nat} {G : Gr} (rh : RH w W0 E A n G) (hw : w.heap.size ≤ W0.heap.size) (ok : GrOk G) (hg : G.length ≤ 1000) (hp : ∀ k, k < G.length → (G.getD k nd0).preds.length ≤ 1000000) (c : Nat) : RAsks G A n c W0 :=
  have hn := rh.len
  have hl := rh.nl hw
  ⟨fun x y W hW => (rahead_any G ok x y A n c W hn (hl.up hW) (by omega) hp).mono fun e w' hh => ⟨hh.1, hW.trans (hh.2.mono hW.size)⟩,
   fun x W hW => (rdepth_any G ok x A n c W hn (hl.up hW) (by omega) hp).mono fun e w' hh => ⟨hh.1, hW.trans (hh.2.mono hW.size)⟩,
   fun x W hW => (rhasg_any G x A n c W hn (hl.up hW) (by omega)).mono fun e w' hh => ⟨hh.1, hW.trans (hh.2.mono hW.size)⟩,
   fun x W hW => (rpredsg_any G x A n c W hn (hl.up hW) (by omega)).mono fun e w' hh => by
    obtain ⟨B, b, q1, q2, q3, q4⟩ := hh
    exact ⟨B, b, q1, q2, q4⟩,
   fun x W hW => (rkids_any G x A n c W hn (hl.up hW) (by omega) hp).mono fun e w' hh => givesL_of rfl hh⟩
theorem dagasks16_any {w : World} (l : Gr) (A : Option Addr) (n c : Nat) (hn : n = l.length) (h : NL w w.heap.size A l) (ask : List Bs) (B : Option Addr) (m d : Nat) (hm : m = ask.length) (hB : SS w w.heap.size B ask) (hmd : m ≤ d) (hdm : d ≤ 9223372036854775807) (hAw : ∀ W, Calls Try.prog 10 #[] W fun e w' => e = .returned (.bool true) ∧ Below W.heap.size W w') :
    Calls Try.prog 4 #[.slice A n c, .slice B m d] w fun e w' => e = .returned (.bool true) ∧ Below w.heap.size w w' := by
  have HL : Hid (0 < l.length → ∃ b off, A = some ⟨b, off, none⟩ ∧ b < w.heap.size ∧ ∀ i, i < l.length → ∃ pA pc, SS w w.heap.size pA (l.getD i nd0).preds ∧ ((l.getD i nd0).preds.length ≤ pc ∧ pc ≤ 9223372036854775807) ∧ w.cell? ⟨b, off + i * 2, none⟩ = some (.string (text (l.getD i nd0).id)) ∧ w.cell? ⟨b, off + i * 2 + 1, none⟩ = some (.slice pA (l.getD i nd0).preds.length pc)) := fun hh => h.at_ hh
  have HN := Lib.hid hn
  have HFe : Hid (∀ W, Below w.heap.size w W → Calls Try.prog 9 #[.slice A n c] W fun e w' => ∃ b, e = .returned (.bool b) ∧ Hid (b = true → fewG l) ∧ Hid (Below W.heap.size W w')) := fun W hW => few_any l A n c W hn (h.up hW)
  have HF2 : Hid (∀ W, Below w.heap.size w W → Calls Try.prog 9 #[.slice (some ⟨W.heap.size, 0, none⟩) 1 1] (W.alloc (.cells #[.string { data := #[] }, .slice B m d] 35)) fun e w' => ∃ b, e = .returned (.bool b) ∧ Hid (b = true → fewG [⟨[], ask⟩]) ∧ Hid (Below W.heap.size W w')) := fun W hW => by
    have h1 := few2_nl W 35 ask B d ((hB.below hW).more hW.size) (by omega) hdm
    rw [← hm] at h1
    refine (few_any [⟨[], ask⟩] _ 1 1 _ rfl h1).mono fun e w' hh => ?_
    obtain ⟨b, q1, q2, q3⟩ := hh
    exact ⟨b, q1, q2, Below.trans ((Below.refl _ _).alloc (Nat.le_refl _) _) (q3.out.mono (by simp))⟩
  have HAw := Lib.hid hAw
  obtain ⟨G, hG⟩ : ∃ g, g = makeG l := ⟨_, rfl⟩
  have HMa : Hid (∀ W, Below w.heap.size w W → fewG l → Calls Try.prog 14 #[.slice A n c] W (GivesMake w G)) := fun W hW hf => by
    rw [hG]
    exact make_any hW l A n c hn h hf
  have ok : Hid (GrOk G) := by show GrOk G; rw [hG]; exact makeK_ok l _
  have HGl : Hid (fewG l → G.length ≤ 1000 ∧ n = l.length ∧ n ≤ 1000) := fun hf => by
    have h1 := hf.1
    have h2 : G.length ≤ l.length := by rw [hG]; exact makeK_len l l.length
    exact ⟨by omega, hn, by omega⟩
  have HPl : Hid (fewG l → ∀ x, (predsG G x).length ≤ 1000) := fun hf x => by
    by_cases hx : x ∈ idsG G
    · have h1 := idx_lt.2 hx
      rw [hG] at h1 ⊢
      exact makeK_preds hf l.length _ h1
    · rw [preds_no hx]
      exact Nat.zero_le _
  obtain ⟨P, hP⟩ : ∃ P, P = pastG G ask := ⟨_, rfl⟩
  obtain ⟨np, hnp⟩ : ∃ x, x = P.length := ⟨_, rfl⟩
  have HNp : Hid (np = P.length ∧ np ≤ G.length) := ⟨hnp, by rw [hnp, hP]; exact past_len ok.out ask⟩
  have HPa : Hid (∀ W p F, G.length ≤ 1000 → m ≤ 10 → DH w W p F G → Calls Try.prog 16 #[.pointer (some ⟨p, 0, none⟩), .slice B m d] W (GivesLc P np W)) := fun W p F hg h10 hW => (dagpast_any hW.dag ok.out hg ask B m d hm ((hB.below hW.below).more hW.below.size) (by omega) hmd hdm).mono fun e w' hh => givesLc_of hnp (by rw [hP]; exact hh)
  have HRp : Hid (∀ W F A' n' c', fewG l → m ≤ 10 → RH w W F A' n' G → Below w.heap.size w W → Calls Try.prog 17 #[.agg #[.slice A' n' c'], .slice B m d] W (GivesLc P np W)) := fun W F A' n' c' hf h10 hr hW => (rpast_any G ok.out ask A' B n' c' m d W hr.len hm (hr.nl hW.size) ((hB.below hW).more hW.size) (by have := (HGl.out hf).1; have := hr.len; omega) (by omega) (fun k hk => by
    have h1 := makeK_preds hf l.length k
    have h2 : makeK l l.length = G := hG.symm
    rw [h2] at h1
    have := h1 hk
    omega)).mono fun e w' hh => givesLc_of hnp (by rw [hP]; exact hh)
  have HPg : Hid (fewG l → ∀ k, k < G.length → (G.getD k nd0).preds.length ≤ 1000000) := fun hf k hk => by
    have h1 := makeK_preds hf l.length k
    have h2 : makeK l l.length = G := hG.symm
    rw [h2] at h1
    have := h1 hk
    omega
  have HKl : Hid (∀ x, (kidsG G x).length ≤ G.length) := fun x => kids_len G x
  have HAs : Hid (0 < ask.length → ∃ b off, B = some ⟨b, off, none⟩ ∧ b < w.heap.size ∧ ∀ k, k < ask.length → w.cell? ⟨b, off + k, none⟩ = some (.string (text (ask.getD k [])))) := fun h0 => hB.at_ h0
  have HMk : Hid (m = ask.length) := hm
  have HTx : Hid (∀ (L : List Bs) (B C : Option Addr) (m b d : Nat) W, m = L.length → m ≤ 1000000 → SS W W.heap.size B L → SS W W.heap.size C L → Calls Try.prog 15 #[.slice B m b, .slice C m d] W fun e w' => e = .returned (.bool true) ∧ Below W.heap.size W w') := fun L B C m b d W h1 h2 h3 h4 => by
    have h := texts_any L L B C m b m d W.heap.size W h1 h1 h3 h4 h2 h2
    rw [decide_eq_true rfl] at h
    exact h
  have HB0 := Lib.hid (Below.refl w.heap.size w)
  have a27 := fun w' => Try.dagAgg w'
  have s27 := fun w' => Try.dagSize w'
  have nnp := fun p w' => Try.dagNil p w'
  clear hn h hAw hG hm hB hmd hdm hP hnp
  by_cases hm10 : m ≤ 10
  · have e0 : decide ((m : Int) > 10) = false := decide_eq_false (by omega)
    have e1 : decide ((10 : Int) < (m : Int)) = false := decide_eq_false (by omega)
    have HM10 := Lib.hid hm10
    clear hm10
    go_enter Try.func4, Try.ntmps4
    go_upto_region 4 with (first
      | (go_at_call 9; (with_reducible refine (HFe.out _ HB0.out).mono ?_); rintro e w1 ⟨b, rfl, hb, hb1⟩; rcases b with _ | _)
      | (go_at_call 9; (with_reducible refine (HF2.out _ (HB0.out.trans hb1.out)).mono ?_); rintro e w2 ⟨b2, rfl, hb2, hb12⟩; rcases b2 with _ | _)
      | (go_at_call 10; (with_reducible refine (HAw.out _).mono ?_); rintro e w3 ⟨rfl, b3⟩)
      | (go_at_call 14; (with_reducible refine (HMa.out _ (hb1.out.trans (hb12.out.mono hb1.out.size)) (hb.out trivial)).mono ?_); rintro e w4 ⟨p, F, A', n', c', rfl, hD, hR⟩))
    · go_ret
      exact ⟨rfl, hb1.out.trans (b3.mono hb1.out.size)⟩
    · go_ret
      have q1 := hb1.out.trans (hb12.out.mono hb1.out.size)
      exact ⟨rfl, q1.trans (b3.mono q1.size)⟩
    have hfw := hb.out trivial
    have HGL := Lib.hid (HGl.out hfw)
    have HPl2 := Lib.hid (HPl.out hfw)
    have HNb : Hid (np = P.length ∧ np ≤ 1000) := ⟨HNp.out.1, Nat.le_trans HNp.out.2 HGL.out.1⟩
    have hS := AV.made (c := c') hD.out hR.out
    have HAk : Hid (∀ k, k < ask.length → (ask.getD k []).length ≤ 1000) := fun k hk => by
      have h1 := ((hb2.out trivial).2 0 Nat.one_pos).2.2 k hk
      have h2 : (ask.getD k []).length ≤ 100 := h1
      omega
    obtain ⟨R6, hR6⟩ : ∃ x, x = w4.heap.size := ⟨_, rfl⟩
    obtain ⟨wm, hwm⟩ : ∃ x, x = w4.alloc (.cells #[.slice A' n' c'] 27) := ⟨_, rfl⟩
    rw [← hwm, ← hR6] at hS ⊢
    have HW0 := Lib.hid hS.dh
    have HSx : Hid (∀ W, Below wm.heap.size wm W → W.cell? ⟨R6, 0, none⟩ = some (.slice A' n' c')) := fun W hW => (hS.v.xv.below hW hS.v.xv.lt).cell 0
    have HPp := Lib.hid (fun W hW => HPa.out W p F HGL.out.1 HM10.out (HW0.out.up hW))
    have HRp2 : Hid (∀ W, Below wm.heap.size wm W → Calls Try.prog 17 #[.agg #[.slice A' n' c'], .slice B m d] W (GivesLc P np W)) := fun W hW => HRp.out W F A' n' c' hfw HM10.out (hS.v.rh.up HW0.out.below.size hW) (HW0.out.below.trans (hW.mono HW0.out.below.size))
    have HAsk := Lib.hid (asks_of HW0.out ok.out HGL.out.1)
    have HRas := Lib.hid (rasks_of hS.v.rh HW0.out.below.size ok.out HGL.out.1 (HPg.out hfw) c')
    have HKi : Hid (∀ x, x.length ≤ 1000 → ∀ W, Below wm.heap.size wm W → Calls Try.prog 24 #[.pointer (some ⟨p, 0, none⟩), .string (text x)] W (GivesL (kidsG G x) (kidsG G x).length W)) := fun x hx W hW => (dagkids_any (HW0.out.up hW).dag ok.out HGL.out.1 x hx).mono fun e w' hh => givesL_of rfl hh
    clear hwm hR6 hD hR hb hb1 hb2 hb12 hfw HGl HPl HFe HMa HF2 HB0 HPa HRp HPg hS
    have S0 : Below wm.heap.size wm wm.drew := (Below.refl _ _).drew
    refine region_T (fun W => Below wm.heap.size wm W) (fun j => decide (11 ≤ j)) (by kernel_rfl) ?_
    refine any_asT rfl (listed' := #[false, false, false, false, false, false, false, false, false, false, false, false]) (by kernel_rfl) ?_
    refine take_c (i := 0) (.pointer (some ⟨p, 0, none⟩)) 31 rfl (by kernel_rfl) (by kernel_rfl) (by kernel_rfl) (by kernel_rfl) (by kernel_rfl) rfl (by kernel_rfl) (by kernel_rfl) (fun W hW => by kernel_rfl) S0 (fun _ _ _ h => h) ?_
    simp only [Act.put, List.setIfInBounds_toArray, List.set_cons_zero, List.set_cons_succ]
    refine take_c (i := 1) (.bool false) 32 rfl (by kernel_rfl) (by kernel_rfl) (by kernel_rfl) (by kernel_rfl) (by kernel_rfl) rfl (by kernel_rfl) (by kernel_rfl) (fun W hW => by kernel_rfl) S0 (fun _ _ _ h => h) ?_
    simp only [Act.put, List.setIfInBounds_toArray, List.set_cons_zero, List.set_cons_succ]
    refine take_c (i := 2) (.bool false) 33 rfl (by kernel_rfl) (by kernel_rfl) (by kernel_rfl) (by kernel_rfl) (by kernel_rfl) rfl (by kernel_rfl) (by kernel_rfl) (fun W hW => by kernel_rfl) S0 (fun _ _ _ h => h) ?_
    simp only [Act.put, List.setIfInBounds_toArray, List.set_cons_zero, List.set_cons_succ]
    refine take_c (i := 3) (.pointer (some ⟨p, 0, none⟩)) 34 rfl (by kernel_rfl) (by kernel_rfl) (by kernel_rfl) (by kernel_rfl) (by kernel_rfl) rfl (by kernel_rfl) (by kernel_rfl) (fun W hW => by kernel_rfl) S0 (fun _ _ _ h => h) ?_
    simp only [Act.put, List.setIfInBounds_toArray, List.set_cons_zero, List.set_cons_succ]
    refine take_c (i := 4) (.slice B m d) 35 rfl (by kernel_rfl) (by kernel_rfl) (by kernel_rfl) (by kernel_rfl) (by kernel_rfl) rfl (by kernel_rfl) (by kernel_rfl) (fun W hW => by kernel_rfl) S0 (fun _ _ _ h => h) ?_
    simp only [Act.put, List.setIfInBounds_toArray, List.set_cons_zero, List.set_cons_succ]
    refine take_c (i := 6) (.agg #[.slice A' n' c']) 37 rfl (by kernel_rfl) (by kernel_rfl) (by kernel_rfl) (by kernel_rfl) (by kernel_rfl) rfl (by kernel_rfl) (by kernel_rfl) (fun W hW => dagload_run (.tmp 6) R6 A' n' c' (by kernel_rfl) (by kernel_rfl) (HSx.out W hW)) S0 (fun _ _ _ h => h) ?_
    simp only [Act.put, List.setIfInBounds_toArray, List.set_cons_zero, List.set_cons_succ]
    refine take_c (i := 7) (.slice B m d) 38 rfl (by kernel_rfl) (by kernel_rfl) (by kernel_rfl) (by kernel_rfl) (by kernel_rfl) rfl (by kernel_rfl) (by kernel_rfl) (fun W hW => by kernel_rfl) S0 (fun _ _ _ h => h) ?_
    simp only [Act.put, List.setIfInBounds_toArray, List.set_cons_zero, List.set_cons_succ]
    refine any_comes (i := 5) (by kernel_rfl) (op_enter 16 #[.pointer (some ⟨p, 0, none⟩), .slice B m d] (some 36) rfl (by kernel_rfl) (by kernel_rfl) (by kernel_rfl) ((HPp.out _ S0).mono ?_))
    rintro e z1 ⟨A1, c1, rfl, s1, e1, k1⟩
    have S1 : Below wm.heap.size wm z1 := S0.trans (e1.out.mono S0.size)
    refine ⟨_, rfl, S1, ?_⟩
    simp only [Act.put, List.setIfInBounds_toArray, List.set_cons_zero, List.set_cons_succ]
    refine any_comes (i := 8) (by kernel_rfl) (op_enter 17 #[.agg #[.slice A' n' c'], .slice B m d] (some 39) rfl (by kernel_rfl) (by kernel_rfl) (by kernel_rfl) ((HRp2.out _ S1).mono ?_))
    rintro e z2 ⟨A2, c2, rfl, s2, e2, k2⟩
    have S2 : Below wm.heap.size wm z2 := S1.trans (e2.out.mono S1.size)
    have s12 := ssUp16 s1.out e2.out
    refine ⟨_, rfl, S2, ?_⟩
    simp only [Act.put, List.setIfInBounds_toArray, List.set_cons_zero, List.set_cons_succ]
    refine any_comes (i := 9) (by kernel_rfl) (op_enter 15 #[.slice A1 np c1, .slice A2 np c2] (some 40) rfl (by kernel_rfl) (by kernel_rfl) (by kernel_rfl) ((HTx.out P A1 A2 np c1 c2 _ HNb.out.1 (Nat.le_trans HNb.out.2 (by decide)) s12 s2.out).mono ?_))
    rintro e z3 ⟨rfl, e3⟩
    have S3 : Below wm.heap.size wm z3 := S2.trans (e3.mono S2.size)
    refine ⟨_, rfl, S3, ?_⟩
    simp only [Act.put, List.setIfInBounds_toArray, List.set_cons_zero, List.set_cons_succ]
    refine take_c (i := 10) (.bool false) 41 rfl (by kernel_rfl) (by kernel_rfl) (by kernel_rfl) (by kernel_rfl) (by kernel_rfl) rfl (by kernel_rfl) (by kernel_rfl) (fun W hW => by kernel_rfl) S3 (fun _ _ _ h => h) ?_
    simp only [Act.put, List.setIfInBounds_toArray, List.set_cons_zero, List.set_cons_succ]
    refine any_left (by kernel_rfl) ?_
    refine wpAny_tail 11 (by kernel_rfl) (by kernel_rfl) ?_
    simp only [List.append, List.append_eq, List.drop_succ_cons, List.drop_zero, List.drop_nil]
    go_wp2
    have HBz : Hid (Below wm.heap.size wm z3) := S3
    clear S0 S1 S2 S3 s1 s2 s12 e1 e2 e3
    go_loopw [7] (fun v wr => ∃ k : Nat, k ≤ m ∧ v = .int .i64 (k : Int) ∧ Hid (Below wm.heap.size wm wr)) (fun v _ => m - (intOf v).toNat)
    case atStart => exact ⟨0, Nat.zero_le _, rfl, HBz.out⟩
    case round =>
      obtain ⟨i, hi, rfl, HBi⟩ := hrel
      by_cases hlt : i < m
      · have d0 : decide ((i : Int) < (m : Int)) = true := decide_eq_true (by omega)
        have hil : i < ask.length := by have := HMk.out; omega
        obtain ⟨ob, oo, rfl, hob, hoc⟩ := HAs.out (by omega)
        have f1 := HAk.out i hil
        have HC : Hid (∀ k, k < ask.length → ∀ W, Below wm.heap.size wm W → W.cell? ⟨ob, oo + k, none⟩ = some (.string (text (ask.getD k [])))) := fun k hk W hW => by
          have hW2 := HW0.out.below.trans (hW.mono HW0.out.below.size)
          exact (hW2.cell (p := ⟨ob, oo + k, none⟩) hob).trans (hoc k hk)
        obtain ⟨x, hx⟩ : ∃ x, x = ask.getD i [] := ⟨_, rfl⟩
        have x0 := HC.out i hil wr HBi.out
        rw [← hx] at f1 x0
        have HHx := Lib.hid (HAsk.out.has x f1)
        have HRHx := Lib.hid (HRas.out.has x)
        have HDx := Lib.hid (HAsk.out.depth x f1)
        have HRDx := Lib.hid (HRas.out.depth x)
        have HPx := Lib.hid (HAsk.out.preds x f1)
        have HRPx := Lib.hid (HRas.out.preds x)
        have HKx := Lib.hid (HKi.out x f1)
        have HRKx := Lib.hid (HRas.out.kids x)
        have HF1 := Lib.hid f1
        obtain ⟨t, ht⟩ : ∃ t, t = text x := ⟨_, rfl⟩
        have HTt := Lib.hid ht
        rw [← ht] at x0 HHx HRHx HDx HRDx HPx HRPx HKx HRKx
        obtain ⟨hs, hhs⟩ : ∃ q, q = hasG G x := ⟨_, rfl⟩
        obtain ⟨dd, hdd⟩ : ∃ q, q = depthG G x := ⟨_, rfl⟩
        obtain ⟨lp, hlp⟩ : ∃ q, q = predsG G x := ⟨_, rfl⟩
        obtain ⟨lk, hlk⟩ : ∃ q, q = kidsG G x := ⟨_, rfl⟩
        obtain ⟨pn, hpn⟩ : ∃ q, q = lp.length := ⟨_, rfl⟩
        obtain ⟨kn, hkn⟩ : ∃ q, q = lk.length := ⟨_, rfl⟩
        have HNp2 : Hid (pn = lp.length ∧ pn ≤ 1000000) := ⟨hpn, by rw [hpn, hlp]; have := HPl2.out x; omega⟩
        have HNk2 : Hid (kn = lk.length ∧ kn ≤ 1000000) := ⟨hkn, by rw [hkn, hlk]; have := HKl.out x; have := HGL.out.1; omega⟩
        rw [← hhs] at HHx HRHx
        rw [← hdd] at HDx HRDx
        rw [← hlp, ← hpn] at HPx HRPx
        rw [← hlk, ← hkn] at HKx HRKx
        clear hil hob hoc f1 hx ht hhs hdd hlp hlk hpn hkn HBz
        go_wp2
        have S0 : Below wm.heap.size wm wr.drew := HBi.out.drew
        refine region_T (fun W => Below wm.heap.size wm W) (fun j => decide (35 ≤ j)) (by kernel_rfl) ?_
        refine any_asT rfl (listed' := #[false, false, false, false, false, false, false, false, false, false, false, false, false, false, false, false, false, false, false, false, false, false, false, false, false, false, false, false, false, false, false, false, false, false, false, false]) (by kernel_rfl) ?_
        refine take_c (i := 0) (.pointer (some ⟨p, 0, none⟩)) 53 rfl (by kernel_rfl) (by kernel_rfl) (by kernel_rfl) (by kernel_rfl) (by kernel_rfl) rfl (by kernel_rfl) (by kernel_rfl) (fun W hW => by kernel_rfl) S0 (fun _ _ _ h => h) ?_
        simp only [Act.put, List.setIfInBounds_toArray, List.set_cons_zero, List.set_cons_succ]
        refine take_c (i := 1) (.string t) 54 rfl (by kernel_rfl) (by kernel_rfl) (by kernel_rfl) (by kernel_rfl) (by kernel_rfl) rfl (by kernel_rfl) (by kernel_rfl) (fun W hW => by kernel_rfl) S0 (fun _ _ _ h => h) ?_
        simp only [Act.put, List.setIfInBounds_toArray, List.set_cons_zero, List.set_cons_succ]
        refine take_c (i := 3) (.agg #[.slice A' n' c']) 56 rfl (by kernel_rfl) (by kernel_rfl) (by kernel_rfl) (by kernel_rfl) (by kernel_rfl) rfl (by kernel_rfl) (by kernel_rfl) (fun W hW => dagload_run (.tmp 6) R6 A' n' c' (by kernel_rfl) (by kernel_rfl) (HSx.out W hW)) S0 (fun _ _ _ h => h) ?_
        simp only [Act.put, List.setIfInBounds_toArray, List.set_cons_zero, List.set_cons_succ]
        refine take_c (i := 4) (.string t) 57 rfl (by kernel_rfl) (by kernel_rfl) (by kernel_rfl) (by kernel_rfl) (by kernel_rfl) rfl (by kernel_rfl) (by kernel_rfl) (fun W hW => by kernel_rfl) S0 (fun _ _ _ h => h) ?_
        simp only [Act.put, List.setIfInBounds_toArray, List.set_cons_zero, List.set_cons_succ]
        refine any_comes (i := 2) (by kernel_rfl) (op_enter 18 #[.pointer (some ⟨p, 0, none⟩), .string t] (some 55) rfl (by kernel_rfl) (by kernel_rfl) (by kernel_rfl) ((HHx.out _ S0).mono ?_))
        rintro e y1 ⟨rfl, e1⟩
        have S1 := e1.out
        refine ⟨_, rfl, S1, ?_⟩
        simp only [Act.put, List.setIfInBounds_toArray, List.set_cons_zero, List.set_cons_succ]
        refine any_comes (i := 5) (by kernel_rfl) (op_enter 19 #[.agg #[.slice A' n' c'], .string t] (some 58) rfl (by kernel_rfl) (by kernel_rfl) (by kernel_rfl) ((HRHx.out _ S1).mono ?_))
        rintro e y2 ⟨rfl, e2⟩
        have S2 := e2.out
        refine ⟨_, rfl, S2, ?_⟩
        simp only [Act.put, List.setIfInBounds_toArray, List.set_cons_zero, List.set_cons_succ]
        refine take_c (i := 6) (.bool false) 59 rfl (by kernel_rfl) (by kernel_rfl) (by kernel_rfl) (by kernel_rfl) (by kernel_rfl) rfl (by kernel_rfl) (by kernel_rfl) (fun W hW => bneqf_run (.tmp 55) (.tmp 58) hs (by kernel_rfl) (by kernel_rfl) (by kernel_rfl)) S2 (fun _ _ _ h => h) ?_
        simp only [Act.put, List.setIfInBounds_toArray, List.set_cons_zero, List.set_cons_succ]
        refine take_c (i := 7) (.bool false) 60 rfl (by kernel_rfl) (by kernel_rfl) (by kernel_rfl) (by kernel_rfl) (by kernel_rfl) rfl (by kernel_rfl) (by kernel_rfl) (fun W hW => by kernel_rfl) S2 (fun _ _ _ h => h) ?_
        simp only [Act.put, List.setIfInBounds_toArray, List.set_cons_zero, List.set_cons_succ]
        refine take_c (i := 8) (.pointer (some ⟨p, 0, none⟩)) 61 rfl (by kernel_rfl) (by kernel_rfl) (by kernel_rfl) (by kernel_rfl) (by kernel_rfl) rfl (by kernel_rfl) (by kernel_rfl) (fun W hW => by kernel_rfl) S2 (fun _ _ _ h => h) ?_
        simp only [Act.put, List.setIfInBounds_toArray, List.set_cons_zero, List.set_cons_succ]
        refine take_c (i := 9) (.string t) 62 rfl (by kernel_rfl) (by kernel_rfl) (by kernel_rfl) (by kernel_rfl) (by kernel_rfl) rfl (by kernel_rfl) (by kernel_rfl) (fun W hW => by kernel_rfl) S2 (fun _ _ _ h => h) ?_
        simp only [Act.put, List.setIfInBounds_toArray, List.set_cons_zero, List.set_cons_succ]
        refine take_c (i := 11) (.agg #[.slice A' n' c']) 64 rfl (by kernel_rfl) (by kernel_rfl) (by kernel_rfl) (by kernel_rfl) (by kernel_rfl) rfl (by kernel_rfl) (by kernel_rfl) (fun W hW => dagload_run (.tmp 6) R6 A' n' c' (by kernel_rfl) (by kernel_rfl) (HSx.out W hW)) S2 (fun _ _ _ h => h) ?_
        simp only [Act.put, List.setIfInBounds_toArray, List.set_cons_zero, List.set_cons_succ]
        refine take_c (i := 12) (.string t) 65 rfl (by kernel_rfl) (by kernel_rfl) (by kernel_rfl) (by kernel_rfl) (by kernel_rfl) rfl (by kernel_rfl) (by kernel_rfl) (fun W hW => by kernel_rfl) S2 (fun _ _ _ h => h) ?_
        simp only [Act.put, List.setIfInBounds_toArray, List.set_cons_zero, List.set_cons_succ]
        refine any_comes (i := 10) (by kernel_rfl) (op_enter 20 #[.pointer (some ⟨p, 0, none⟩), .string t] (some 63) rfl (by kernel_rfl) (by kernel_rfl) (by kernel_rfl) ((HDx.out _ S2).mono ?_))
        rintro e y3 ⟨rfl, e3⟩
        have S3 := e3.out
        refine ⟨_, rfl, S3, ?_⟩
        simp only [Act.put, List.setIfInBounds_toArray, List.set_cons_zero, List.set_cons_succ]
        refine any_comes (i := 13) (by kernel_rfl) (op_enter 21 #[.agg #[.slice A' n' c'], .string t] (some 66) rfl (by kernel_rfl) (by kernel_rfl) (by kernel_rfl) ((HRDx.out _ S3).mono ?_))
        rintro e y4 ⟨rfl, e4⟩
        have S4 := e4.out
        refine ⟨_, rfl, S4, ?_⟩
        simp only [Act.put, List.setIfInBounds_toArray, List.set_cons_zero, List.set_cons_succ]
        refine take_c (i := 14) (.bool false) 67 rfl (by kernel_rfl) (by kernel_rfl) (by kernel_rfl) (by kernel_rfl) (by kernel_rfl) rfl (by kernel_rfl) (by kernel_rfl) (fun W hW => ineqf_run (.tmp 63) (.tmp 66) ((dd : Nat) : Int) (by kernel_rfl) (by kernel_rfl) (by kernel_rfl)) S4 (fun _ _ _ h => h) ?_
        simp only [Act.put, List.setIfInBounds_toArray, List.set_cons_zero, List.set_cons_succ]
        refine take_c (i := 15) (.bool false) 68 rfl (by kernel_rfl) (by kernel_rfl) (by kernel_rfl) (by kernel_rfl) (by kernel_rfl) rfl (by kernel_rfl) (by kernel_rfl) (fun W hW => by kernel_rfl) S4 (fun _ _ _ h => h) ?_
        simp only [Act.put, List.setIfInBounds_toArray, List.set_cons_zero, List.set_cons_succ]
        refine take_c (i := 16) (.bool false) 69 rfl (by kernel_rfl) (by kernel_rfl) (by kernel_rfl) (by kernel_rfl) (by kernel_rfl) rfl (by kernel_rfl) (by kernel_rfl) (fun W hW => by kernel_rfl) S4 (fun _ _ _ h => h) ?_
        simp only [Act.put, List.setIfInBounds_toArray, List.set_cons_zero, List.set_cons_succ]
        refine take_c (i := 17) (.pointer (some ⟨p, 0, none⟩)) 70 rfl (by kernel_rfl) (by kernel_rfl) (by kernel_rfl) (by kernel_rfl) (by kernel_rfl) rfl (by kernel_rfl) (by kernel_rfl) (fun W hW => by kernel_rfl) S4 (fun _ _ _ h => h) ?_
        simp only [Act.put, List.setIfInBounds_toArray, List.set_cons_zero, List.set_cons_succ]
        refine take_c (i := 18) (.string t) 71 rfl (by kernel_rfl) (by kernel_rfl) (by kernel_rfl) (by kernel_rfl) (by kernel_rfl) rfl (by kernel_rfl) (by kernel_rfl) (fun W hW => by kernel_rfl) S4 (fun _ _ _ h => h) ?_
        simp only [Act.put, List.setIfInBounds_toArray, List.set_cons_zero, List.set_cons_succ]
        refine take_c (i := 20) (.agg #[.slice A' n' c']) 73 rfl (by kernel_rfl) (by kernel_rfl) (by kernel_rfl) (by kernel_rfl) (by kernel_rfl) rfl (by kernel_rfl) (by kernel_rfl) (fun W hW => dagload_run (.tmp 6) R6 A' n' c' (by kernel_rfl) (by kernel_rfl) (HSx.out W hW)) S4 (fun _ _ _ h => h) ?_
        simp only [Act.put, List.setIfInBounds_toArray, List.set_cons_zero, List.set_cons_succ]
        refine take_c (i := 21) (.string t) 74 rfl (by kernel_rfl) (by kernel_rfl) (by kernel_rfl) (by kernel_rfl) (by kernel_rfl) rfl (by kernel_rfl) (by kernel_rfl) (fun W hW => by kernel_rfl) S4 (fun _ _ _ h => h) ?_
        simp only [Act.put, List.setIfInBounds_toArray, List.set_cons_zero, List.set_cons_succ]
        refine any_comes (i := 19) (by kernel_rfl) (op_enter 22 #[.pointer (some ⟨p, 0, none⟩), .string t] (some 72) rfl (by kernel_rfl) (by kernel_rfl) (by kernel_rfl) ((HPx.out _ S4).mono ?_))
        rintro e y5 ⟨A1, c1, rfl, s5, e5, k5⟩
        have S5 : Below wm.heap.size wm y5 := S4.trans (e5.out.mono S4.size)
        refine ⟨_, rfl, S5, ?_⟩
        simp only [Act.put, List.setIfInBounds_toArray, List.set_cons_zero, List.set_cons_succ]
        refine any_comes (i := 22) (by kernel_rfl) (op_enter 23 #[.agg #[.slice A' n' c'], .string t] (some 75) rfl (by kernel_rfl) (by kernel_rfl) (by kernel_rfl) ((HRPx.out _ S5).mono ?_))
        rintro e y6 ⟨A2, c2, rfl, s6, e6⟩
        have S6 : Below wm.heap.size wm y6 := S5.trans (e6.out.mono S5.size)
        have s56 := ssUp16 s5.out e6.out
        refine ⟨_, rfl, S6, ?_⟩
        simp only [Act.put, List.setIfInBounds_toArray, List.set_cons_zero, List.set_cons_succ]
        refine any_comes (i := 23) (by kernel_rfl) (op_enter 15 #[.slice A1 pn c1, .slice A2 pn c2] (some 76) rfl (by kernel_rfl) (by kernel_rfl) (by kernel_rfl) ((HTx.out lp A1 A2 pn c1 c2 _ HNp2.out.1 HNp2.out.2 s56 s6.out).mono ?_))
        rintro e y7 ⟨rfl, e7⟩
        have S7 : Below wm.heap.size wm y7 := S6.trans (e7.mono S6.size)
        refine ⟨_, rfl, S7, ?_⟩
        simp only [Act.put, List.setIfInBounds_toArray, List.set_cons_zero, List.set_cons_succ]
        refine take_c (i := 24) (.bool false) 77 rfl (by kernel_rfl) (by kernel_rfl) (by kernel_rfl) (by kernel_rfl) (by kernel_rfl) rfl (by kernel_rfl) (by kernel_rfl) (fun W hW => by kernel_rfl) S7 (fun _ _ _ h => h) ?_
        simp only [Act.put, List.setIfInBounds_toArray, List.set_cons_zero, List.set_cons_succ]
        refine take_c (i := 25) (.bool false) 78 rfl (by kernel_rfl) (by kernel_rfl) (by kernel_rfl) (by kernel_rfl) (by kernel_rfl) rfl (by kernel_rfl) (by kernel_rfl) (fun W hW => by kernel_rfl) S7 (fun _ _ _ h => h) ?_
        simp only [Act.put, List.setIfInBounds_toArray, List.set_cons_zero, List.set_cons_succ]
        refine take_c (i := 26) (.bool false) 79 rfl (by kernel_rfl) (by kernel_rfl) (by kernel_rfl) (by kernel_rfl) (by kernel_rfl) rfl (by kernel_rfl) (by kernel_rfl) (fun W hW => by kernel_rfl) S7 (fun _ _ _ h => h) ?_
        simp only [Act.put, List.setIfInBounds_toArray, List.set_cons_zero, List.set_cons_succ]
        refine take_c (i := 27) (.pointer (some ⟨p, 0, none⟩)) 80 rfl (by kernel_rfl) (by kernel_rfl) (by kernel_rfl) (by kernel_rfl) (by kernel_rfl) rfl (by kernel_rfl) (by kernel_rfl) (fun W hW => by kernel_rfl) S7 (fun _ _ _ h => h) ?_
        simp only [Act.put, List.setIfInBounds_toArray, List.set_cons_zero, List.set_cons_succ]
        refine take_c (i := 28) (.string t) 81 rfl (by kernel_rfl) (by kernel_rfl) (by kernel_rfl) (by kernel_rfl) (by kernel_rfl) rfl (by kernel_rfl) (by kernel_rfl) (fun W hW => by kernel_rfl) S7 (fun _ _ _ h => h) ?_
        simp only [Act.put, List.setIfInBounds_toArray, List.set_cons_zero, List.set_cons_succ]
        refine take_c (i := 30) (.agg #[.slice A' n' c']) 83 rfl (by kernel_rfl) (by kernel_rfl) (by kernel_rfl) (by kernel_rfl) (by kernel_rfl) rfl (by kernel_rfl) (by kernel_rfl) (fun W hW => dagload_run (.tmp 6) R6 A' n' c' (by kernel_rfl) (by kernel_rfl) (HSx.out W hW)) S7 (fun _ _ _ h => h) ?_
        simp only [Act.put, List.setIfInBounds_toArray, List.set_cons_zero, List.set_cons_succ]
        refine take_c (i := 31) (.string t) 84 rfl (by kernel_rfl) (by kernel_rfl) (by kernel_rfl) (by kernel_rfl) (by kernel_rfl) rfl (by kernel_rfl) (by kernel_rfl) (fun W hW => by kernel_rfl) S7 (fun _ _ _ h => h) ?_
        simp only [Act.put, List.setIfInBounds_toArray, List.set_cons_zero, List.set_cons_succ]
        refine any_comes (i := 29) (by kernel_rfl) (op_enter 24 #[.pointer (some ⟨p, 0, none⟩), .string t] (some 82) rfl (by kernel_rfl) (by kernel_rfl) (by kernel_rfl) ((HKx.out _ S7).mono ?_))
        rintro e y8 ⟨A3, c3, rfl, s8, e8⟩
        have S8 : Below wm.heap.size wm y8 := S7.trans (e8.out.mono S7.size)
        refine ⟨_, rfl, S8, ?_⟩
        simp only [Act.put, List.setIfInBounds_toArray, List.set_cons_zero, List.set_cons_succ]
        refine any_comes (i := 32) (by kernel_rfl) (op_enter 25 #[.agg #[.slice A' n' c'], .string t] (some 85) rfl (by kernel_rfl) (by kernel_rfl) (by kernel_rfl) ((HRKx.out _ S8).mono ?_))
        rintro e y9 ⟨A4, c4, rfl, s9, e9⟩
        have S9 : Below wm.heap.size wm y9 := S8.trans (e9.out.mono S8.size)
        have s89 := ssUp16 s8.out e9.out
        refine ⟨_, rfl, S9, ?_⟩
        simp only [Act.put, List.setIfInBounds_toArray, List.set_cons_zero, List.set_cons_succ]
        refine any_comes (i := 33) (by kernel_rfl) (op_enter 15 #[.slice A3 kn c3, .slice A4 kn c4] (some 86) rfl (by kernel_rfl) (by kernel_rfl) (by kernel_rfl) ((HTx.out lk A3 A4 kn c3 c4 _ HNk2.out.1 HNk2.out.2 s89 s9.out).mono ?_))
        rintro e y10 ⟨rfl, e10⟩
        have S10 : Below wm.heap.size wm y10 := S9.trans (e10.mono S9.size)
        refine ⟨_, rfl, S10, ?_⟩
        simp only [Act.put, List.setIfInBounds_toArray, List.set_cons_zero, List.set_cons_succ]
        refine take_c (i := 34) (.bool false) 87 rfl (by kernel_rfl) (by kernel_rfl) (by kernel_rfl) (by kernel_rfl) (by kernel_rfl) rfl (by kernel_rfl) (by kernel_rfl) (fun W hW => by kernel_rfl) S10 (fun _ _ _ h => h) ?_
        simp only [Act.put, List.setIfInBounds_toArray, List.set_cons_zero, List.set_cons_succ]
        refine any_left (by kernel_rfl) ?_
        refine wpAny_tail 35 (by kernel_rfl) (by kernel_rfl) ?_
        simp only [List.append, List.append_eq, List.drop_succ_cons, List.drop_zero, List.drop_nil]
        go_wp2
        have HBy : Hid (Below wm.heap.size wm y10) := S10
        clear S0 S1 S2 S3 S4 S5 S6 S7 S8 S9 S10 s5 s6 s56 s8 s9 s89 e5 e6 e7 e8 e9 e10 x0 HHx HRHx HDx HRDx HPx HRPx HKx HRKx
        go_loopw [9] (fun v wr => ∃ k : Nat, k ≤ m ∧ v = .int .i64 (k : Int) ∧ Hid (Below wm.heap.size wm wr)) (fun v _ => m - (intOf v).toNat)
        case atStart => exact ⟨0, Nat.zero_le _, rfl, HBy.out⟩
        case round =>
          obtain ⟨k, hk, rfl, HBk⟩ := hrel
          by_cases hlt2 : k < m
          · have d0 : decide ((k : Int) < (m : Int)) = true := decide_eq_true (by omega)
            have hkl : k < ask.length := by have := HMk.out; omega
            have f2 := HAk.out k hkl
            have HE2 := Lib.hid (HC.out k hkl)
            obtain ⟨y, hy⟩ : ∃ y, y = ask.getD k [] := ⟨_, rfl⟩
            rw [← hy] at f2 HE2
            have HAx := Lib.hid (HAsk.out.ahead x y HF1.out f2)
            have HRAx := Lib.hid (HRas.out.ahead x y)
            obtain ⟨u, hu⟩ : ∃ u, u = text y := ⟨_, rfl⟩
            rw [← hu] at HE2
            rw [← HTt.out, ← hu] at HAx HRAx
            obtain ⟨v, hv⟩ : ∃ v, v = aheadG G x y := ⟨_, rfl⟩
            rw [← hv] at HAx HRAx
            clear hkl f2 hy hu hv HBy HBi
            go_wp2
            have S0 : Below wm.heap.size wm wr.drew := HBk.out.drew
            refine region_T (fun W => Below wm.heap.size wm W) (fun j => decide (14 ≤ j)) (by kernel_rfl) ?_
            refine any_asT rfl (listed' := #[false, false, false, false, false, false, false, false, false, false, false, false, false, false, false]) (by kernel_rfl) ?_
            refine take_c (i := 0) (.pointer (some ⟨p, 0, none⟩)) 95 rfl (by kernel_rfl) (by kernel_rfl) (by kernel_rfl) (by kernel_rfl) (by kernel_rfl) rfl (by kernel_rfl) (by kernel_rfl) (fun W hW => by kernel_rfl) S0 (fun _ _ _ h => h) ?_
            simp only [Act.put, List.setIfInBounds_toArray, List.set_cons_zero, List.set_cons_succ]
            refine take_c (i := 1) (.string t) 96 rfl (by kernel_rfl) (by kernel_rfl) (by kernel_rfl) (by kernel_rfl) (by kernel_rfl) rfl (by kernel_rfl) (by kernel_rfl) (fun W hW => by kernel_rfl) S0 (fun _ _ _ h => h) ?_
            simp only [Act.put, List.setIfInBounds_toArray, List.set_cons_zero, List.set_cons_succ]
            refine take_c (i := 2) (.slice (some ⟨ob, oo, none⟩) m d) 97 rfl (by kernel_rfl) (by kernel_rfl) (by kernel_rfl) (by kernel_rfl) (by kernel_rfl) rfl (by kernel_rfl) (by kernel_rfl) (fun W hW => by kernel_rfl) S0 (fun _ _ _ h => h) ?_
            simp only [Act.put, List.setIfInBounds_toArray, List.set_cons_zero, List.set_cons_succ]
            refine take_c (i := 3) (.int .i64 (k : Int)) 98 rfl (by kernel_rfl) (by kernel_rfl) (by kernel_rfl) (by kernel_rfl) (by kernel_rfl) rfl (by kernel_rfl) (by kernel_rfl) (fun W hW => by kernel_rfl) S0 (fun _ _ _ h => h) ?_
            simp only [Act.put, List.setIfInBounds_toArray, List.set_cons_zero, List.set_cons_succ]
            refine take_c (i := 4) (.pointer (some ⟨ob, oo + k, none⟩)) 99 rfl (by kernel_rfl) (by kernel_rfl) (by kernel_rfl) (by kernel_rfl) (by kernel_rfl) rfl (by kernel_rfl) (by kernel_rfl) (fun W hW => sidx_run (.tmp 97) (.tmp 98) ob oo m d k (by kernel_rfl) (by kernel_rfl) (by kernel_rfl) hlt2) S0 (fun _ _ _ h => h) ?_
            simp only [Act.put, List.setIfInBounds_toArray, List.set_cons_zero, List.set_cons_succ]
            refine take_c (i := 5) (.string u) 100 rfl (by kernel_rfl) (by kernel_rfl) (by kernel_rfl) (by kernel_rfl) (by kernel_rfl) rfl (by kernel_rfl) (by kernel_rfl) (fun W hW => cell_run 9 (.tmp 99) ⟨ob, oo + k, none⟩ (.string u) _ (by kernel_rfl) (by kernel_rfl) (HE2.out W hW) Try.underlying9 rfl (by kernel_rfl)) S0 (fun _ _ _ h => h) ?_
            simp only [Act.put, List.setIfInBounds_toArray, List.set_cons_zero, List.set_cons_succ]
            refine take_c (i := 7) (.agg #[.slice A' n' c']) 102 rfl (by kernel_rfl) (by kernel_rfl) (by kernel_rfl) (by kernel_rfl) (by kernel_rfl) rfl (by kernel_rfl) (by kernel_rfl) (fun W hW => dagload_run (.tmp 6) R6 A' n' c' (by kernel_rfl) (by kernel_rfl) (HSx.out W hW)) S0 (fun _ _ _ h => h) ?_
            simp only [Act.put, List.setIfInBounds_toArray, List.set_cons_zero, List.set_cons_succ]
            refine take_c (i := 8) (.string t) 103 rfl (by kernel_rfl) (by kernel_rfl) (by kernel_rfl) (by kernel_rfl) (by kernel_rfl) rfl (by kernel_rfl) (by kernel_rfl) (fun W hW => by kernel_rfl) S0 (fun _ _ _ h => h) ?_
            simp only [Act.put, List.setIfInBounds_toArray, List.set_cons_zero, List.set_cons_succ]
            refine take_c (i := 9) (.slice (some ⟨ob, oo, none⟩) m d) 104 rfl (by kernel_rfl) (by kernel_rfl) (by kernel_rfl) (by kernel_rfl) (by kernel_rfl) rfl (by kernel_rfl) (by kernel_rfl) (fun W hW => by kernel_rfl) S0 (fun _ _ _ h => h) ?_
            simp only [Act.put, List.setIfInBounds_toArray, List.set_cons_zero, List.set_cons_succ]
            refine take_c (i := 10) (.int .i64 (k : Int)) 105 rfl (by kernel_rfl) (by kernel_rfl) (by kernel_rfl) (by kernel_rfl) (by kernel_rfl) rfl (by kernel_rfl) (by kernel_rfl) (fun W hW => by kernel_rfl) S0 (fun _ _ _ h => h) ?_
            simp only [Act.put, List.setIfInBounds_toArray, List.set_cons_zero, List.set_cons_succ]
            refine take_c (i := 11) (.pointer (some ⟨ob, oo + k, none⟩)) 106 rfl (by kernel_rfl) (by kernel_rfl) (by kernel_rfl) (by kernel_rfl) (by kernel_rfl) rfl (by kernel_rfl) (by kernel_rfl) (fun W hW => sidx_run (.tmp 104) (.tmp 105) ob oo m d k (by kernel_rfl) (by kernel_rfl) (by kernel_rfl) hlt2) S0 (fun _ _ _ h => h) ?_
            simp only [Act.put, List.setIfInBounds_toArray, List.set_cons_zero, List.set_cons_succ]
            refine take_c (i := 12) (.string u) 107 rfl (by kernel_rfl) (by kernel_rfl) (by kernel_rfl) (by kernel_rfl) (by kernel_rfl) rfl (by kernel_rfl) (by kernel_rfl) (fun W hW => cell_run 9 (.tmp 106) ⟨ob, oo + k, none⟩ (.string u) _ (by kernel_rfl) (by kernel_rfl) (HE2.out W hW) Try.underlying9 rfl (by kernel_rfl)) S0 (fun _ _ _ h => h) ?_
            simp only [Act.put, List.setIfInBounds_toArray, List.set_cons_zero, List.set_cons_succ]
            refine any_comes (i := 6) (by kernel_rfl) (op_enter 26 #[.pointer (some ⟨p, 0, none⟩), .string t, .string u] (some 101) rfl (by kernel_rfl) (by kernel_rfl) (by kernel_rfl) ((HAx.out _ S0).mono ?_))
            rintro e y1 ⟨rfl, e1⟩
            have S1 := e1.out
            refine ⟨_, rfl, S1, ?_⟩
            simp only [Act.put, List.setIfInBounds_toArray, List.set_cons_zero, List.set_cons_succ]
            refine any_comes (i := 13) (by kernel_rfl) (op_enter 27 #[.agg #[.slice A' n' c'], .string t, .string u] (some 108) rfl (by kernel_rfl) (by kernel_rfl) (by kernel_rfl) ((HRAx.out _ S1).mono ?_))
            rintro e y2 ⟨rfl, e2⟩
            have S2 := e2.out
            refine ⟨_, rfl, S2, ?_⟩
            simp only [Act.put, List.setIfInBounds_toArray, List.set_cons_zero, List.set_cons_succ]
            refine any_left (by kernel_rfl) ?_
            refine take_p (i := 14) (.bool false) 109 rfl (by kernel_rfl) (by kernel_rfl) (by kernel_rfl) (by kernel_rfl) (by kernel_rfl) (fun W => bneqf_run (.tmp 101) (.tmp 108) v (by kernel_rfl) (by kernel_rfl) (by kernel_rfl)) (fun _ _ _ h => h) ?_
            simp only [Act.put, List.setIfInBounds_toArray, List.set_cons_zero, List.set_cons_succ]
            refine wpAny_tail 15 (by kernel_rfl) (by kernel_rfl) ?_
            simp only [List.append, List.append_eq, List.drop_succ_cons, List.drop_zero, List.drop_nil]
            go_wp2
            go_roundw
            case rel => exact ⟨k + 1, hlt2, congrArg (Value.int .i64) (next64 hlt2 ⟨rfl, Nat.le_trans HM10.out (by decide)⟩), S2⟩
            case measure => exact less64 hlt2 ⟨rfl, Nat.le_trans HM10.out (by decide)⟩
          · have d0 : decide ((k : Int) < (m : Int)) = false := decide_eq_false (by omega)
            go_wp2
            go_roundw
            case rel => exact ⟨i + 1, hlt, congrArg (Value.int .i64) (next64 hlt ⟨rfl, Nat.le_trans HM10.out (by decide)⟩), HBk.out⟩
            case measure => exact less64 hlt ⟨rfl, Nat.le_trans HM10.out (by decide)⟩
      · have d0 : decide ((i : Int) < (m : Int)) = false := decide_eq_false (by omega)
        go_wp2_with (go_at_call 10; (with_reducible refine (HAw.out _).mono ?_); rintro e w8 ⟨rfl, b8⟩)
        go_ret
        have q1 := HW0.out.below.trans (HBi.out.mono HW0.out.below.size)
        exact ⟨rfl, q1.trans (b8.mono q1.size)⟩
  · have e0 : decide ((m : Int) > 10) = true := decide_eq_true (by omega)
    have e1 : decide ((10 : Int) < (m : Int)) = true := decide_eq_true (by omega)
    clear hm10
    go_enter Try.func4, Try.ntmps4
    go_wp2_with (first
      | (go_at_call 9; (with_reducible refine (HFe.out _ HB0.out).mono ?_); rintro e w1 ⟨b, rfl, hb, hb1⟩; rcases b with _ | _)
      | (go_at_call 10; (with_reducible refine (HAw.out _).mono ?_); rintro e w3 ⟨rfl, b3⟩))
    all_goals
      go_ret
      exact ⟨rfl, hb1.out.trans (b3.mono hb1.out.size)⟩
end Go.Proofs.Ytbeihiokjhfepaa
