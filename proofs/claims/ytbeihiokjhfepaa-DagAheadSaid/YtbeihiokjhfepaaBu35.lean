/- Lemmas under the proofs of this place: DagOrderA. No statement is proved here. -/
import Derived.Test.YtbeihiokjhfepaaBu33
import Derived.Test.YtbeihiokjhfepaaBu34
import Derived.Test.YtbeihiokjhfepaaBu12
import Derived.Test.YtbeihiokjhfepaaBu11
import Derived.Deep.Cut
set_option linter.unusedSimpArgs false
set_option linter.unusedVariables false
set_option maxRecDepth 100000
set_option maxHeartbeats 16000000
namespace Go.Proofs.Ytbeihiokjhfepaa
open Go.RowKit
theorem ssl_to (A : Option Addr) (n c h : Nat) (h1 : h ≤ c) (W : World) :
    (Instr.sliceAt 33 (.slice A n c) none (some (.int .i64 (h : Int))) none).run Try.prog W = .ok (.slice A h c) W := by
  have hu : Try.prog.underlying 33 = some (.slice (Try.prog.elem 33)) := by kernel_rfl
  have he : Try.prog.elem 33 = 9 := by kernel_rfl
  have hsz : (sizeOf 9).run Try.prog W = .ok 1 W := by kernel_rfl
  have e : (h : Int).toNat = h := by omega
  have e0 : (if c = 0 then A else A.map (·.add (0 * 1))) = A := by
    split
    · rfl
    · cases A with
      | none => rfl
      | some a => simp [Addr.add]
  rw [run_sliceAt_slice _ _ _ _ _ _ hu, run_slice_h _ _ _ _ _ hu .i64 (h : Int) (by omega) (by omega), he, hsz]
  simp only [Result.andThen_ok, e, sliced, Nat.sub_zero, e0]
def GivesLc (L : List Bs) (n : Nat) (w : World) (e : Ending) (w' : World) : Prop := ∃ A c, e = .returned (.slice A n c) ∧ Hid (SS w' w'.heap.size A L) ∧ Hid (Below w.heap.size w w') ∧ Hid (n ≤ c)
theorem givesLc_of {L : List Bs} {n : Nat} (hn : n = L.length) {w w' : World} {e : Ending} (h : GivesStrs L w e w') : GivesLc L n w e w' := by
  obtain ⟨A, c, h1, h2, h3, _, h5⟩ := h
  exact ⟨A, c, by rw [h1, hn], h2, h5, by show n ≤ c; rw [hn]; exact h3⟩
theorem Try.dagNil (p : Nat) (w : World) : Sem.run Try.prog (binOp .eql 23 (.pointer (some ⟨p, 0, none⟩)) (.pointer none)) w = .ok (.bool false) w := by kernel_rfl
theorem dagorder16_any {w : World} (l : Gr) (A : Option Addr) (n c : Nat) (hn : n = l.length) (h : NL w w.heap.size A l) (hAw : ∀ W, Calls Try.prog 10 #[] W fun e w' => e = .returned (.bool true) ∧ Below W.heap.size W w') :
    Calls Try.prog 5 #[.slice A n c] w fun e w' => e = .returned (.bool true) ∧ Below w.heap.size w w' := by
  have HFe : Hid (∀ W, Below w.heap.size w W → Calls Try.prog 9 #[.slice A n c] W fun e w' => ∃ b, e = .returned (.bool b) ∧ Hid (b = true → fewG l) ∧ Hid (Below W.heap.size W w')) := fun W hW => few_any l A n c W hn (h.up hW)
  have HAw := Lib.hid hAw
  obtain ⟨G, hG⟩ : ∃ g, g = makeG l := ⟨_, rfl⟩
  have HMa : Hid (∀ W, Below w.heap.size w W → fewG l → Calls Try.prog 14 #[.slice A n c] W (GivesMake w G)) := fun W hW hf => by
    rw [hG]
    exact make_any hW l A n c hn h hf
  have ok : GrOk G := by rw [hG]; exact makeK_ok l _
  obtain ⟨O, hO⟩ : ∃ o, o = orderG G := ⟨_, rfl⟩
  obtain ⟨n5, hn5⟩ : ∃ x, x = O.length := ⟨_, rfl⟩
  have hgl : G.length = n5 := by rw [hn5, hO, order_len ok]
  have H30 : Hid (fewG l → n5 = O.length ∧ n5 ≤ 1000) := fun hf => ⟨hn5, by
    have h1 := hf.1
    have h2 := makeK_len l l.length
    rw [hG] at hgl
    have h3 : (makeK l l.length).length = n5 := hgl
    omega⟩
  have HLp : Hid (fewG l → ∀ x, (predsG G x).length ≤ 1000) := fun hf x => by
    by_cases hx : x ∈ idsG G
    · have h1 := idx_lt.2 hx
      rw [hG] at h1 ⊢
      exact makeK_preds hf l.length _ h1
    · rw [preds_no hx]
      exact Nat.zero_le _
  have HOr : Hid (∀ W p F, n5 ≤ 1000 → DH w W p F G → Calls Try.prog 28 #[.pointer (some ⟨p, 0, none⟩)] W (GivesLc O n5 W)) := fun W p F h5 hW => (dagorder_any hW.dag ok (by omega)).mono fun e w' hh => givesLc_of hn5 (by rw [hO]; exact hh)
  have HLe : Hid (∀ W p F, n5 ≤ 1000 → DH w W p F G → Calls Try.prog 30 #[.pointer (some ⟨p, 0, none⟩)] W fun e w' => e = .returned (.int .i64 ((n5 : Nat) : Int)) ∧ Below W.heap.size W w') := fun W p F h5 hW => by
    rw [← hgl]
    exact daglen_any hW.dag ok (by omega)
  have HX : Hid (∀ x, x ∈ O → x.length ≤ 1000 ∧ hasG G x = true) := fun x hx => by
    rw [hO] at hx
    have h0 := (order_mem ok x).1 hx
    have h1 := right_of ok h0
    have h2 : x.length = 32 := by simpa [rightB] using h1
    exact ⟨by omega, hasG_iff.2 h0⟩
  have HPp : Hid (∀ (x : Bs) W p F, n5 ≤ 1000 → x.length ≤ 1000 → DH w W p F G → Calls Try.prog 22 #[.pointer (some ⟨p, 0, none⟩), .string (text x)] W (GivesLc (predsG G x) (predsG G x).length W)) := fun x W p F h5 h1 hW => (dagpreds_any hW.dag ok (by omega) x h1).mono fun e w' hh => givesLc_of rfl hh
  have HHa : Hid (∀ (x : Bs) W p F, n5 ≤ 1000 → x ∈ O → DH w W p F G → Calls Try.prog 18 #[.pointer (some ⟨p, 0, none⟩), .string (text x)] W fun e w' => e = .returned (.bool true) ∧ Below W.heap.size W w') := fun x W p F h5 hx hW => by
    rw [← (HX.out x hx).2]
    exact daghas_any hW.dag ok (by omega) x (HX.out x hx).1
  have HBe : Hid (∀ i, i < O.length → ∀ q, q ∈ predsG G (O.getD i []) → hasL (O.take i) q = true) := fun i hi q hq => by
    rw [hO] at hi hq ⊢
    rw [List.getD, List.getElem?_eq_getElem hi] at hq
    exact (hasL_iff _ _).2 (order_behind ok hi hq)
  have HOn : Hid (∀ i, i < O.length → hasL (O.take i) (O.getD i []) = false) := fun i hi => by
    rw [hO] at hi ⊢
    rw [List.getD, List.getElem?_eq_getElem hi]
    have h1 := order_once ok hi
    cases hh : hasL ((orderG G).take i) (some (orderG G)[i]).get! with
    | false => exact hh
    | true => exact absurd ((hasL_iff _ _).1 hh) h1
  have HRh : Hid (∀ (L : List Bs) (x : Bs) (B : Option Addr) (m b : Nat) W, m = L.length → m ≤ 1000000 → SS W W.heap.size B L → Calls Try.prog 29 #[.slice B m b, .string (text x)] W fun e w' => e = .returned (.bool (hasL L x)) ∧ W = w') := fun L x B m b W h1 h2 h3 => refHas_any L x B m b _ W h1 h3 h2
  clear hn h hAw hG ok hO hn5 hgl
  have a27 := fun w' => Try.dagAgg w'
  have s27 := fun w' => Try.dagSize w'
  have np := fun p w' => Try.dagNil p w'
  have HB0 := Lib.hid (Below.refl w.heap.size w)
  go_enter Try.func5, Try.ntmps5
  go_upto_region 6 with (first
    | (go_at_call 9; (with_reducible refine (HFe.out _ HB0.out).mono ?_); rintro e w1 ⟨b, rfl, hb, hb1⟩; rcases b with _ | _)
    | (go_at_call 10; (with_reducible refine (HAw.out _).mono ?_); rintro e w3 ⟨rfl, b3⟩)
    | (go_at_call 14; (with_reducible refine (HMa.out _ hb1.out (hb.out trivial)).mono ?_); rintro e w2 ⟨p, F, A', n', c', rfl, hD, hR⟩))
  · go_ret
    exact ⟨rfl, hb1.out.trans (b3.mono hb1.out.size)⟩
  have hfw := hb.out trivial
  have HN5 := Lib.hid (H30.out hfw)
  have HW0 : Hid (DH w (w2.alloc (.cells #[.slice A' n' c'] 27)) p F G) := hD.out.up ((Below.refl _ _).alloc (Nat.le_refl _) _)
  obtain ⟨wm, hwm⟩ : ∃ x, x = w2.alloc (.cells #[.slice A' n' c'] 27) := ⟨_, rfl⟩
  rw [← hwm] at HW0 ⊢
  have HPl := Lib.hid (HLp.out hfw)
  clear hwm hD hR hb hb1 hfw H30 HFe HMa HB0
  go_wp2_with (go_at_call 28; (with_reducible refine (HOr.out _ p F HN5.out.2 HW0.out).mono ?_); rintro e w4 ⟨A5, c5, rfl, s5, hb5, hc5⟩)
  have HW1 : Hid (DH w w4 p F G) := HW0.out.up hb5.out
  clear hb5 HW0 HOr
  go_loopw [6] (fun v wr => ∃ k : Nat, k ≤ n5 ∧ v = .int .i64 (k : Int) ∧ Hid (Below w4.heap.size w4 wr)) (fun v _ => n5 - (intOf v).toNat)
  case atStart => exact ⟨0, Nat.zero_le _, rfl, Below.refl _ _⟩
  case round =>
    obtain ⟨k, hk, rfl, HBr⟩ := hrel
    by_cases hlt : k < n5
    · have d0 : decide ((k : Int) < (n5 : Int)) = true := decide_eq_true (by omega)
      have hkO : k < O.length := by have := HN5.out.1; omega
      have HcO := Lib.hid (Nat.le_trans (Nat.le_of_lt hlt) hc5.out)
      have sT : Hid (∀ W, Below w4.heap.size w4 W → SS W W.heap.size A5 (O.take k)) := fun W hW => ((s5.out.take k (by omega)).below hW).more hW.size
      have hkT : k = (O.take k).length := by rw [List.length_take]; omega
      obtain ⟨ob, oo, rfl, hob, hoc⟩ := s5.out.at_ (by omega)
      have hok := hoc k hkO
      have hB1 := HBe.out k hkO
      have hB2 := HOn.out k hkO
      obtain ⟨x, hx⟩ : ∃ x, x = O.getD k [] := ⟨_, rfl⟩
      rw [← hx] at hok hB1 hB2
      have hxm : x ∈ O := by
        rw [hx, List.getD, List.getElem?_eq_getElem hkO]
        exact List.getElem_mem hkO
      have hxl := (HX.out x hxm).1
      obtain ⟨T, hT⟩ : ∃ T, T = O.take k := ⟨_, rfl⟩
      rw [← hT] at sT hkT hB1 hB2
      have HkT := Lib.hid hkT
      have HHx : Hid (∀ W, SS W W.heap.size (some ⟨ob, oo, none⟩) T → Calls Try.prog 29 #[.slice (some ⟨ob, oo, none⟩) k c5, .string (text x)] W fun e w' => e = .returned (.bool false) ∧ W = w') := fun W hs => by
        have := HRh.out T x (some ⟨ob, oo, none⟩) k c5 W HkT.out (by have := HN5.out.2; omega) hs
        rw [hB2] at this
        exact this
      have HHd := Lib.hid (fun W hW => HHa.out x W p F HN5.out.2 hxm hW)
      have HPx := Lib.hid (fun W hW => HPp.out x W p F HN5.out.2 hxl hW)
      obtain ⟨lp, hlp⟩ : ∃ l, l = predsG G x := ⟨_, rfl⟩
      rw [← hlp] at hB1 HPx
      obtain ⟨m, hm⟩ : ∃ m, m = lp.length := ⟨_, rfl⟩
      rw [← hm] at HPx
      have HM := Lib.hid hm
      have HBq := Lib.hid hB1
      have HM5 : Hid (m = m ∧ m ≤ 1000) := ⟨rfl, by rw [hm, hlp]; exact HPl.out x⟩
      obtain ⟨t, ht⟩ : ∃ t, t = text x := ⟨_, rfl⟩
      rw [← ht] at hok HHx HHd HPx
      have HE : Hid (∀ W, Below w4.heap.size w4 W → W.cell? ⟨ob, oo + k, none⟩ = some (.string t)) := fun W hW => (hW.cell (p := ⟨ob, oo + k, none⟩) hob).trans hok
      have x0 := HE.out wr HBr.out
      have hsl := fun W => ssl_to (some ⟨ob, oo, none⟩) n5 c5 k HcO.out W
      clear hx hxm hxl ht hok hoc hob hkO hlp hm hB1 hB2 hT hkT
      go_wp2_with (go_at_call 22; (with_reducible refine (HPx.out _ (HW1.out.up HBr.out)).mono ?_); rintro e w6 ⟨A6, c6, rfl, s6, hb6, hc6⟩)
      have HBs : Hid (Below w4.heap.size w4 w6) := HBr.out.trans (hb6.out.mono HBr.out.size)
      clear hb6 hc6 x0
      go_loopw [8] (fun v wr => ∃ j : Nat, j ≤ m ∧ v = .int .i64 (j : Int) ∧ Hid (Below w6.heap.size w6 wr)) (fun v _ => m - (intOf v).toNat)
      case atStart => exact ⟨0, Nat.zero_le _, rfl, Below.refl _ _⟩
      case round =>
        obtain ⟨j, hj, rfl, HBj⟩ := hrel
        by_cases hlt2 : j < m
        · have d0 : decide ((j : Int) < (m : Int)) = true := decide_eq_true (by omega)
          have hjl : j < lp.length := by have := HM.out; omega
          obtain ⟨qb, qo, rfl, hqb, hqc⟩ := s6.out.at_ (by omega)
          have hqk := hqc j hjl
          have hqm : lp.getD j [] ∈ lp := by
            rw [List.getD, List.getElem?_eq_getElem hjl]
            exact List.getElem_mem hjl
          have hq1 := HBq.out _ hqm
          obtain ⟨q, hq⟩ : ∃ q, q = lp.getD j [] := ⟨_, rfl⟩
          rw [← hq] at hqk hq1
          have HHq : Hid (∀ W, SS W W.heap.size (some ⟨ob, oo, none⟩) T → Calls Try.prog 29 #[.slice (some ⟨ob, oo, none⟩) k c5, .string (text q)] W fun e w' => e = .returned (.bool true) ∧ W = w') := fun W hs => by
            have := HRh.out T q (some ⟨ob, oo, none⟩) k c5 W HkT.out (by have := HN5.out.2; omega) hs
            rw [hq1] at this
            exact this
          obtain ⟨tq, htq⟩ : ∃ t, t = text q := ⟨_, rfl⟩
          rw [← htq] at hqk HHq
          have HEq : Hid (∀ W, Below w6.heap.size w6 W → W.cell? ⟨qb, qo + j, none⟩ = some (.string tq)) := fun W hW => (hW.cell (p := ⟨qb, qo + j, none⟩) hqb).trans hqk
          clear hjl hqc hqk hqm hq1 hq htq
          go_wp2
          have S0 : Below w6.heap.size w6 wr.drew := HBj.out.drew
          have sTd := sT.out _ (HBs.out.trans (S0.mono HBs.out.size))
          refine region_T (fun W => Below w6.heap.size w6 W) (fun j => decide (8 ≤ j)) (by kernel_rfl) ?_
          refine any_asT rfl (listed' := #[false, false, false, false, false, false, false, false, false]) (by kernel_rfl) ?_
          refine take_c (i := 0) (.slice (some ⟨ob, oo, none⟩) n5 c5) 40 rfl (by kernel_rfl) (by kernel_rfl) (by kernel_rfl) (by kernel_rfl) (by kernel_rfl) rfl (by kernel_rfl) (by kernel_rfl) (fun W hW => by kernel_rfl) S0 (fun _ _ _ h => h) ?_
          simp only [Act.put, List.setIfInBounds_toArray, List.set_cons_zero, List.set_cons_succ]
          refine take_c (i := 1) (.int .i64 (k : Int)) 41 rfl (by kernel_rfl) (by kernel_rfl) (by kernel_rfl) (by kernel_rfl) (by kernel_rfl) rfl (by kernel_rfl) (by kernel_rfl) (fun W hW => by kernel_rfl) S0 (fun _ _ _ h => h) ?_
          simp only [Act.put, List.setIfInBounds_toArray, List.set_cons_zero, List.set_cons_succ]
          refine take_c (i := 2) (.slice (some ⟨ob, oo, none⟩) k c5) 42 rfl (by kernel_rfl) (by kernel_rfl) (by kernel_rfl) (by kernel_rfl) (by kernel_rfl) rfl (by kernel_rfl) (by kernel_rfl) (fun W hW => slice_run 33 (.tmp 40) none (some (.tmp 41)) rfl _ _ _ _ (by kernel_rfl) (by kernel_rfl) (by kernel_rfl) (hsl W)) S0 (fun _ _ _ h => h) ?_
          simp only [Act.put, List.setIfInBounds_toArray, List.set_cons_zero, List.set_cons_succ]
          refine take_c (i := 3) (.slice (some ⟨qb, qo, none⟩) m c6) 43 rfl (by kernel_rfl) (by kernel_rfl) (by kernel_rfl) (by kernel_rfl) (by kernel_rfl) rfl (by kernel_rfl) (by kernel_rfl) (fun W hW => by kernel_rfl) S0 (fun _ _ _ h => h) ?_
          simp only [Act.put, List.setIfInBounds_toArray, List.set_cons_zero, List.set_cons_succ]
          refine take_c (i := 4) (.int .i64 (j : Int)) 44 rfl (by kernel_rfl) (by kernel_rfl) (by kernel_rfl) (by kernel_rfl) (by kernel_rfl) rfl (by kernel_rfl) (by kernel_rfl) (fun W hW => by kernel_rfl) S0 (fun _ _ _ h => h) ?_
          simp only [Act.put, List.setIfInBounds_toArray, List.set_cons_zero, List.set_cons_succ]
          refine take_c (i := 5) (.pointer (some ⟨qb, qo + j, none⟩)) 45 rfl (by kernel_rfl) (by kernel_rfl) (by kernel_rfl) (by kernel_rfl) (by kernel_rfl) rfl (by kernel_rfl) (by kernel_rfl) (fun W hW => sidx_run (.tmp 43) (.tmp 44) qb qo m c6 j (by kernel_rfl) (by kernel_rfl) (by kernel_rfl) hlt2) S0 (fun _ _ _ h => h) ?_
          simp only [Act.put, List.setIfInBounds_toArray, List.set_cons_zero, List.set_cons_succ]
          refine take_c (i := 6) (.string tq) 46 rfl (by kernel_rfl) (by kernel_rfl) (by kernel_rfl) (by kernel_rfl) (by kernel_rfl) rfl (by kernel_rfl) (by kernel_rfl) (fun W hW => cell_run 9 (.tmp 45) ⟨qb, qo + j, none⟩ (.string tq) _ (by kernel_rfl) (by kernel_rfl) (HEq.out W hW) Try.underlying9 rfl (by kernel_rfl)) S0 (fun _ _ _ h => h) ?_
          simp only [Act.put, List.setIfInBounds_toArray, List.set_cons_zero, List.set_cons_succ]
          refine any_comes (i := 7) (by kernel_rfl) (op_enter 29 #[.slice (some ⟨ob, oo, none⟩) k c5, .string tq] (some 47) rfl (by kernel_rfl) (by kernel_rfl) (by kernel_rfl) ((HHq.out _ sTd).mono ?_))
          rintro e w9 ⟨rfl, ew⟩
          have S1 : Below w6.heap.size w6 w9 := by rw [← ew]; exact S0
          refine ⟨_, rfl, S1, ?_⟩
          simp only [Act.put, List.setIfInBounds_toArray, List.set_cons_zero, List.set_cons_succ]
          refine any_left (by kernel_rfl) ?_
          refine wpAny_tail 8 (by kernel_rfl) (by kernel_rfl) ?_
          simp only [List.append, List.append_eq, List.drop_succ_cons, List.drop_zero, List.drop_nil]
          go_wp2
          go_roundw
          case rel => exact ⟨j + 1, hlt2, congrArg (Value.int .i64) (next64 hlt2 ⟨rfl, HM5.out.2⟩), S1⟩
          case measure => exact less64 hlt2 ⟨rfl, HM5.out.2⟩
        · have d0 : decide ((j : Int) < (m : Int)) = false := decide_eq_false (by omega)
          have HBk : Hid (Below w4.heap.size w4 wr) := HBs.out.trans (HBj.out.mono HBs.out.size)
          go_wp2
          have S0 : Below w4.heap.size w4 wr.drew := HBk.out.drew
          have sTd := sT.out _ S0
          refine region_T (fun W => Below w4.heap.size w4 W) (fun j => decide (16 ≤ j)) (by kernel_rfl) ?_
          refine any_asT rfl (listed' := #[false, false, false, false, false, false, false, false, false, false, false, false, false, false, false, false, false]) (by kernel_rfl) ?_
          refine take_c (i := 0) (.slice (some ⟨ob, oo, none⟩) n5 c5) 49 rfl (by kernel_rfl) (by kernel_rfl) (by kernel_rfl) (by kernel_rfl) (by kernel_rfl) rfl (by kernel_rfl) (by kernel_rfl) (fun W hW => by kernel_rfl) S0 (fun _ _ _ h => h) ?_
          simp only [Act.put, List.setIfInBounds_toArray, List.set_cons_zero, List.set_cons_succ]
          refine take_c (i := 1) (.int .i64 (k : Int)) 50 rfl (by kernel_rfl) (by kernel_rfl) (by kernel_rfl) (by kernel_rfl) (by kernel_rfl) rfl (by kernel_rfl) (by kernel_rfl) (fun W hW => by kernel_rfl) S0 (fun _ _ _ h => h) ?_
          simp only [Act.put, List.setIfInBounds_toArray, List.set_cons_zero, List.set_cons_succ]
          refine take_c (i := 2) (.slice (some ⟨ob, oo, none⟩) k c5) 51 rfl (by kernel_rfl) (by kernel_rfl) (by kernel_rfl) (by kernel_rfl) (by kernel_rfl) rfl (by kernel_rfl) (by kernel_rfl) (fun W hW => slice_run 33 (.tmp 49) none (some (.tmp 50)) rfl _ _ _ _ (by kernel_rfl) (by kernel_rfl) (by kernel_rfl) (hsl W)) S0 (fun _ _ _ h => h) ?_
          simp only [Act.put, List.setIfInBounds_toArray, List.set_cons_zero, List.set_cons_succ]
          refine take_c (i := 3) (.slice (some ⟨ob, oo, none⟩) n5 c5) 52 rfl (by kernel_rfl) (by kernel_rfl) (by kernel_rfl) (by kernel_rfl) (by kernel_rfl) rfl (by kernel_rfl) (by kernel_rfl) (fun W hW => by kernel_rfl) S0 (fun _ _ _ h => h) ?_
          simp only [Act.put, List.setIfInBounds_toArray, List.set_cons_zero, List.set_cons_succ]
          refine take_c (i := 4) (.int .i64 (k : Int)) 53 rfl (by kernel_rfl) (by kernel_rfl) (by kernel_rfl) (by kernel_rfl) (by kernel_rfl) rfl (by kernel_rfl) (by kernel_rfl) (fun W hW => by kernel_rfl) S0 (fun _ _ _ h => h) ?_
          simp only [Act.put, List.setIfInBounds_toArray, List.set_cons_zero, List.set_cons_succ]
          refine take_c (i := 5) (.pointer (some ⟨ob, oo + k, none⟩)) 54 rfl (by kernel_rfl) (by kernel_rfl) (by kernel_rfl) (by kernel_rfl) (by kernel_rfl) rfl (by kernel_rfl) (by kernel_rfl) (fun W hW => sidx_run (.tmp 52) (.tmp 53) ob oo n5 c5 k (by kernel_rfl) (by kernel_rfl) (by kernel_rfl) hlt) S0 (fun _ _ _ h => h) ?_
          simp only [Act.put, List.setIfInBounds_toArray, List.set_cons_zero, List.set_cons_succ]
          refine take_c (i := 6) (.string t) 55 rfl (by kernel_rfl) (by kernel_rfl) (by kernel_rfl) (by kernel_rfl) (by kernel_rfl) rfl (by kernel_rfl) (by kernel_rfl) (fun W hW => cell_run 9 (.tmp 54) ⟨ob, oo + k, none⟩ (.string t) _ (by kernel_rfl) (by kernel_rfl) (HE.out W hW) Try.underlying9 rfl (by kernel_rfl)) S0 (fun _ _ _ h => h) ?_
          simp only [Act.put, List.setIfInBounds_toArray, List.set_cons_zero, List.set_cons_succ]
          refine any_comes (i := 7) (by kernel_rfl) (op_enter 29 #[.slice (some ⟨ob, oo, none⟩) k c5, .string t] (some 56) rfl (by kernel_rfl) (by kernel_rfl) (by kernel_rfl) ((HHx.out _ sTd).mono ?_))
          rintro e w9 ⟨rfl, ew⟩
          have S1 : Below w4.heap.size w4 w9 := by rw [← ew]; exact S0
          refine ⟨_, rfl, S1, ?_⟩
          simp only [Act.put, List.setIfInBounds_toArray, List.set_cons_zero, List.set_cons_succ]
          refine take_c (i := 8) (.bool false) 57 rfl (by kernel_rfl) (by kernel_rfl) (by kernel_rfl) (by kernel_rfl) (by kernel_rfl) rfl (by kernel_rfl) (by kernel_rfl) (fun W hW => by kernel_rfl) S1 (fun _ _ _ h => h) ?_
          simp only [Act.put, List.setIfInBounds_toArray, List.set_cons_zero, List.set_cons_succ]
          refine take_c (i := 9) (.pointer (some ⟨p, 0, none⟩)) 58 rfl (by kernel_rfl) (by kernel_rfl) (by kernel_rfl) (by kernel_rfl) (by kernel_rfl) rfl (by kernel_rfl) (by kernel_rfl) (fun W hW => by kernel_rfl) S1 (fun _ _ _ h => h) ?_
          simp only [Act.put, List.setIfInBounds_toArray, List.set_cons_zero, List.set_cons_succ]
          refine take_c (i := 10) (.slice (some ⟨ob, oo, none⟩) n5 c5) 59 rfl (by kernel_rfl) (by kernel_rfl) (by kernel_rfl) (by kernel_rfl) (by kernel_rfl) rfl (by kernel_rfl) (by kernel_rfl) (fun W hW => by kernel_rfl) S1 (fun _ _ _ h => h) ?_
          simp only [Act.put, List.setIfInBounds_toArray, List.set_cons_zero, List.set_cons_succ]
          refine take_c (i := 11) (.int .i64 (k : Int)) 60 rfl (by kernel_rfl) (by kernel_rfl) (by kernel_rfl) (by kernel_rfl) (by kernel_rfl) rfl (by kernel_rfl) (by kernel_rfl) (fun W hW => by kernel_rfl) S1 (fun _ _ _ h => h) ?_
          simp only [Act.put, List.setIfInBounds_toArray, List.set_cons_zero, List.set_cons_succ]
          refine take_c (i := 12) (.pointer (some ⟨ob, oo + k, none⟩)) 61 rfl (by kernel_rfl) (by kernel_rfl) (by kernel_rfl) (by kernel_rfl) (by kernel_rfl) rfl (by kernel_rfl) (by kernel_rfl) (fun W hW => sidx_run (.tmp 59) (.tmp 60) ob oo n5 c5 k (by kernel_rfl) (by kernel_rfl) (by kernel_rfl) hlt) S1 (fun _ _ _ h => h) ?_
          simp only [Act.put, List.setIfInBounds_toArray, List.set_cons_zero, List.set_cons_succ]
          refine take_c (i := 13) (.string t) 62 rfl (by kernel_rfl) (by kernel_rfl) (by kernel_rfl) (by kernel_rfl) (by kernel_rfl) rfl (by kernel_rfl) (by kernel_rfl) (fun W hW => cell_run 9 (.tmp 61) ⟨ob, oo + k, none⟩ (.string t) _ (by kernel_rfl) (by kernel_rfl) (HE.out W hW) Try.underlying9 rfl (by kernel_rfl)) S1 (fun _ _ _ h => h) ?_
          simp only [Act.put, List.setIfInBounds_toArray, List.set_cons_zero, List.set_cons_succ]
          refine any_comes (i := 14) (by kernel_rfl) (op_enter 18 #[.pointer (some ⟨p, 0, none⟩), .string t] (some 63) rfl (by kernel_rfl) (by kernel_rfl) (by kernel_rfl) ((HHd.out _ (HW1.out.up S1)).mono ?_))
          rintro e w10 ⟨rfl, b10⟩
          have S2 : Below w4.heap.size w4 w10 := S1.trans (b10.mono S1.size)
          refine ⟨_, rfl, S2, ?_⟩
          simp only [Act.put, List.setIfInBounds_toArray, List.set_cons_zero, List.set_cons_succ]
          refine take_c (i := 15) (.bool false) 64 rfl (by kernel_rfl) (by kernel_rfl) (by kernel_rfl) (by kernel_rfl) (by kernel_rfl) rfl (by kernel_rfl) (by kernel_rfl) (fun W hW => by kernel_rfl) S2 (fun _ _ _ h => h) ?_
          simp only [Act.put, List.setIfInBounds_toArray, List.set_cons_zero, List.set_cons_succ]
          refine any_left (by kernel_rfl) ?_
          refine wpAny_tail 16 (by kernel_rfl) (by kernel_rfl) ?_
          simp only [List.append, List.append_eq, List.drop_succ_cons, List.drop_zero, List.drop_nil]
          go_wp2
          go_roundw
          case rel => exact ⟨k + 1, hlt, congrArg (Value.int .i64) (next64 hlt HN5.out), S2⟩
          case measure => exact less64 hlt HN5.out
    · have d0 : decide ((k : Int) < (n5 : Int)) = false := decide_eq_false (by omega)
      have d1 : decide ((n5 : Int) = (n5 : Int)) = true := decide_eq_true rfl
      have hD := HW1.out.up HBr.out
      go_wp2_with (first
        | (go_at_call 30; (with_reducible refine (HLe.out _ p F HN5.out.2 hD).mono ?_); rintro e w7 ⟨rfl, b7⟩)
        | (go_at_call 10; (with_reducible refine (HAw.out _).mono ?_); rintro e w8 ⟨rfl, b8⟩))
      go_ret
      exact ⟨rfl, hD.below.trans ((b7.trans (b8.mono b7.size)).mono hD.below.size)⟩
end Go.Proofs.Ytbeihiokjhfepaa
