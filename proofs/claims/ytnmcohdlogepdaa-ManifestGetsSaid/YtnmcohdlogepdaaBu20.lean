/- Lemmas under the proofs of this place: ManPTake, ManPCheck, ManPNums. No statement is proved here. -/
import Derived.Test.YtnmcohdlogepdaaBu19
import Derived.Test.YtnmcohdlogepdaaBu15
import Derived.Test.YtnmcohdlogepdaaBu13
import Derived.Test.YtnmcohdlogepdaaBu17
import Derived.Test.YtnmcohdlogepdaaBu09
section
set_option linter.unusedVariables false
set_option linter.unusedSimpArgs false
namespace Go.Proofs.Ytnmcohdlogepdaa
open Go.RowKit
def takeP (most : Nat) (st : St) : St × List Pt × Bool := if most < (stepNum st).2 then ((stepNum st).1, [], false) else ((takeN (stepNum st).1 (stepNum st).2).1, (takeN (stepNum st).1 (stepNum st).2).2, true)
theorem pown_only {w w' : World} {base g n : Nat} {e : TypeId} {size : Nat} {v : Value} {xs : List Value} (h : w.ownsRow base e size v n xs) (ho : Only w w' g) (hn : v.ownBlock ≠ some g) : w'.ownsRow base e size v n xs := by
  refine h.kept ho ?_
  cases hv : v.ownBlock with
  | none => exact .inl rfl
  | some k => exact .inr (by rw [hv] at hn; exact hn)
theorem curb_keep {B g : Nat} {w w' : World} {st : St} (h : CurB B w g st) (hB : B ≤ w.heap.size) {row : Option Nat} (hg : w.grownBy w' row) (hr : ∀ k, row = some k → B ≤ k ∧ k ≠ g) : CurB B w' g st := by
  refine h.keep (hg.block g h.lt fun e => (hr g e.symm).2 rfl) fun p hp => World.cell?_of_block (hg.block p.block (by omega) fun e => ?_)
  have := (hr _ e.symm).1
  omega
theorem only_grown {a w w' : World} {g : Nat} {row : Option Nat} (h : Only a w g) (hg : w.grownBy w' row) (hr : ∀ k, row = some k → a.heap.size ≤ k) : Only a w' g :=
  ⟨hg.os.trans h.os, hg.tape.trans h.tape, hg.output.trans h.output, Nat.le_trans h.size hg.size, fun i hi hne => (hg.block i (Nat.lt_of_lt_of_le hi h.size) fun e => by have := hr i e.symm; omega).trans (h.block i hi hne)⟩
set_option maxRecDepth 100000 in
set_option maxHeartbeats 4000000 in
theorem takeparts_at (B g most : Nat) (st : St) (w : World) (h : CurB B w g st) (hB : B ≤ w.heap.size) (hm : most ≤ 8) :
    Calls Try.prog 17 #[.pointer (some ⟨g, 0, none⟩), .int .i64 (most : Int)] w fun e w' => ∃ A n c, e = .returned (.tuple #[.slice A n c, .bool (takeP most st).2.2]) ∧ n ≤ 8 ∧ Hid (n = (takeP most st).2.1.length ∧ w'.ownsRow w.heap.size 27 3 (.slice A n c) n (ptCells (takeP most st).2.1)) ∧ CurB B w' g (takeP most st).1 ∧ Only w w' g := by
  obtain ⟨i0, hi0, hz0, hz1, hz2⟩ := info_parts Try.partInfo
  obtain ⟨r, hr⟩ : ∃ r, r = takeP most st := ⟨_, rfl⟩
  rw [← hr]
  obtain ⟨s1, many, hs1⟩ : ∃ s n, stepNum st = (s, n) := ⟨_, _, rfl⟩
  have HN : Hid (∀ W s t x, stepNum s = (t, x) → CurB B W g s → B ≤ W.heap.size → Calls Try.prog 39 #[.pointer (some ⟨g, 0, none⟩)] W fun e w' => e = .returned (.int .i64 (x : Int)) ∧ Hid (CurB B w' g t) ∧ Only W w' g) := fun W s t x hs hc hBW => by
    have := num_at B g s W hc hBW
    rw [hs] at this
    exact this
  have HS1 := Lib.hid hs1
  have HC := Lib.hid h
  have hgw := h.lt
  by_cases hlt : most < many
  · have HR : Hid (r = (s1, [], false)) := by show _ = _; rw [hr]; unfold takeP; rw [hs1, if_pos hlt]
    have d0 : decide ((many : Int) > (most : Int)) = true := decide_eq_true (by omega)
    have d1 : decide ((most : Int) < (many : Int)) = true := decide_eq_true (by omega)
    have d2 : decide (most < many) = true := decide_eq_true hlt
    have d3 : decide (many > most) = true := decide_eq_true hlt
    clear hr hs1 h
    go_enter Try.func17, Try.ntmps17
    go_wp2_with (go_at_call 39; (with_reducible refine (HN.out _ _ _ _ HS1.out HC.out hB).mono ?_); rintro e w1 ⟨rfl, hc1, o1⟩)
    go_ret2
    rw [HR.out]
    exact ⟨none, 0, 0, rfl, by omega, ⟨rfl, World.ownsRow_nil _ _ _ _⟩, hc1.out, o1⟩
  · have HR : Hid (r = ((takeN s1 many).1, (takeN s1 many).2, true)) := by show _ = _; rw [hr]; unfold takeP; rw [hs1, if_neg hlt]
    have d0 : decide ((many : Int) > (most : Int)) = false := decide_eq_false (by omega)
    have d1 : decide ((most : Int) < (many : Int)) = false := decide_eq_false (by omega)
    have d2 : decide (most < many) = false := decide_eq_false hlt
    have d3 : decide (many > most) = false := decide_eq_false hlt
    have hm8 : many ≤ 8 := by omega
    clear hr hs1 h hlt
    go_enter Try.func17, Try.ntmps17
    go_wp2_with (go_at_call 39; (with_reducible refine (HN.out _ _ _ _ HS1.out HC.out hB).mono ?_); rintro e w1 ⟨rfl, hc1, o1⟩)
    have HO1 := Lib.hid o1
    clear o1 d0 d1 d2 d3
    go_loopw [7, 17] (fun v x wr => ∃ (i c : Nat) (A : Option Addr), i ≤ many ∧ v = .slice A i c ∧ x = .int .i64 (i : Int) ∧ Hid (wr.ownsRow w.heap.size 27 3 (.slice A i c) i (ptCells (takeN s1 i).2) ∧ CurB B wr g (takeN s1 i).1 ∧ Only w wr g)) (fun _ x _ => many - (intOf x).toNat)
    case atStart => exact ⟨0, 0, none, by omega, rfl, rfl, World.ownsRow_nil _ _ _ _, hc1.out, HO1.out⟩
    case round =>
      obtain ⟨i, c, A, hi, rfl, rfl, HI⟩ := hrel
      by_cases hlt : i < many
      · obtain ⟨sa, ha⟩ : ∃ s, s = (takeN s1 i).1 := ⟨_, rfl⟩
        obtain ⟨sb, xb, hb⟩ : ∃ s n, stepNum sa = (s, n) := ⟨_, _, rfl⟩
        obtain ⟨sc, xc, hc⟩ : ∃ s n, stepNum sb = (s, n) := ⟨_, _, rfl⟩
        obtain ⟨sd, xd, hd⟩ : ∃ s n, stepNum sc = (s, n) := ⟨_, _, rfl⟩
        have HT : Hid (takeN s1 (i + 1) = (sd, (takeN s1 i).2 ++ [⟨(xb : Int), (xc : Int), (xd : Int)⟩])) := by
          show _ = _
          rw [takeN]
          unfold stepPt
          rw [← ha, hb]
          simp only []
          rw [hc]
          simp only []
          rw [hd]
        have HO := Lib.hid HI.out.1
        have hCa : CurB B wr g sa := by rw [ha]; exact HI.out.2.1
        have HCa := Lib.hid hCa
        have HW := Lib.hid HI.out.2.2
        have hz1' := HI.out.2.2.size
        have Hb := Lib.hid hb
        have Hc := Lib.hid hc
        have Hd := Lib.hid hd
        have dd3 : decide ((i : Int) < (many : Int)) = true := decide_eq_true (by omega)
        have dd4 : decide (i < many) = true := decide_eq_true hlt
        have y7 : IntKind.i64.wrap ((i : Int) + 1) = (i : Int) + 1 := IntWalk.i64_in _ (by omega)
        clear ha hb hc hd HI hCa
        go_wp2_with (first
          | (go_at_call 39; (with_reducible refine (HN.out _ _ _ _ Hd.out hcc.out (by omega)).mono ?_); rintro e w4 ⟨rfl, hcd, o4⟩; have HO4 := Lib.hid (only_trans o2 (only_trans o3 o4)); have z4 := o4.size; have HOw := Lib.hid (pown_only HO.out HO4.out (fun e => by have := (HO.out.lt _ e).1; omega)))
          | (go_at_call 39; (with_reducible refine (HN.out _ _ _ _ Hc.out hcb.out (by omega)).mono ?_); rintro e w3 ⟨rfl, hcc, o3⟩; have z3 := o3.size)
          | (go_at_call 39; (with_reducible refine (HN.out _ _ _ _ Hb.out HCa.out (by omega)).mono ?_); rintro e w2 ⟨rfl, hcb, o2⟩; have z2 := o2.size)
          | (at_builtin; refine wpList_append_any _ rfl (.tmp 25) (.tmp 30) 25 rfl w.heap.size 27 i0 _ 3 24 Try.underlying25 hi0 hz0 hz1 hz2 rfl (by omega) (.slice A i c) i _ rfl (HOw.out.alloc _) _ (some ⟨w4.heap.size, 0, none⟩) 1 1 (ptCells [⟨(xb : Int), (xc : Int), (xd : Int)⟩]) rfl (pt_reads rfl (pt_new w4 ⟨(xb : Int), (xc : Int), (xd : Int)⟩)) (ptCells_one _) (by simp only [maxLen]; omega) (by omega) (by simp; omega) ?_; intro v5 w5 ho5 hg5 hat5; obtain ⟨A5, c5, rfl⟩ := own_slice7 ho5))
        have HCd : Hid (CurB B w5 g sd) := by
          have h1 : CurB B (w4.alloc (.cells #[.int .i64 (xb : Int), .int .i64 (xc : Int), .int .i64 (xd : Int)] 27)) g sd := curb_keep hcd.out (by omega) (World.grownBy_alloc w4 _ none) (fun k hk => nomatch hk)
          refine curb_keep h1 (by simp; omega) hg5 fun k hk => ?_
          have := (HOw.out.lt _ hk).1
          exact ⟨by omega, by omega⟩
        have HO5 : Hid (Only w w5 g) := only_grown (only_alloc (only_trans HW.out HO4.out) _) hg5 fun k hk => (HOw.out.lt _ hk).1
        go_roundw
        case rel =>
          refine ⟨i + 1, c5, A5, by omega, rfl, by go_num, ?_, ?_, HO5.out⟩
          · rw [HT.out, ptCells_append]
            exact ho5
          · rw [HT.out]
            exact HCd.out
        case measure => simp [intOf]; omega
      · have hin : i = many := by omega
        rw [hin] at HI
        have dd3 : decide ((i : Int) < (many : Int)) = false := decide_eq_false (by omega)
        have dd4 : decide (i < many) = false := decide_eq_false hlt
        go_wp2
        go_ret2
        rw [HR.out]
        exact ⟨A, i, c, rfl, by omega, ⟨by rw [hin, takeN_len], by rw [hin]; exact HI.out.1⟩, HI.out.2.1, HI.out.2.2⟩
end Go.Proofs.Ytnmcohdlogepdaa
end
section
set_option linter.unusedVariables false
set_option linter.unusedSimpArgs false
namespace Go.Proofs.Ytnmcohdlogepdaa
open Go.RowKit
def chkL (l : List Pt) : Int := if l.all Pt.ok = false then 1 else if (l.map Pt.f).Nodup then 0 else 7
theorem Mf.check_eq (m : Mf) : m.check = if 8 < m.segs.length then 4 else chkL m.parts := rfl
theorem chkL_arg {l : List Pt} (i : Nat) (hi : i < l.length) (hk : l[i].ok = false) : chkL l = 1 := by
  unfold chkL
  rw [if_pos]
  rw [List.all_eq_false]
  exact ⟨_, List.getElem_mem hi, by simp [hk]⟩
theorem chkL_twice {l : List Pt} (ha : ∀ i (hi : i < l.length), l[i].ok = true) (q i : Nat) (hi : i < l.length) (hq : q < i) (he : l[q].f = l[i].f) : chkL l = 7 := by
  unfold chkL
  rw [if_neg (all_at ha), if_neg]
  intro hn
  have h1 := List.pairwise_iff_getElem.1 hn q i (by simp; omega) (by simpa using hi) hq
  simp at h1
  exact h1 he
theorem chkL_fine {l : List Pt} (ha : ∀ i (hi : i < l.length), l[i].ok = true) (hd : ∀ q i (hi : i < l.length) (hq : q < i), l[q].f ≠ l[i].f) : chkL l = 0 := by
  unfold chkL
  rw [if_neg (all_at ha), if_pos]
  exact List.pairwise_iff_getElem.2 fun q i hq hi hlt => by
    simp
    exact hd q i (by simpa using hi) hlt
theorem one_new (w W : World) (a b c : Value) (h : Below (w.alloc (.cells #[a, b, c] 27)).heap.size (w.alloc (.cells #[a, b, c] 27)) W) : W.cell? ⟨w.heap.size, 0, none⟩ = some a := by
  have h1 := Blk.new w 27 #[a, b, c]
  have h2 : Blk W w.heap.size 27 #[a, b, c] := h1.below h (by simp)
  rw [h2.cell]; rfl
set_option maxRecDepth 100000 in
set_option maxHeartbeats 4000000 in
theorem check_any (l : List Pt) (k : Nat) (A : Option Addr) (c : Nat) (w2 : World) (hk : k = l.length) (hk1 : k ≤ 1001) (hc : k ≤ c) (h : PtL w2 w2.heap.size A l) : Calls Try.prog 18 #[.slice A k c] w2 fun e w' => e = .returned (.int .i64 (chkL l)) ∧ Below w2.heap.size w2 w' := by
  obtain ⟨ck, hck⟩ : ∃ x, x = chkL l := ⟨_, rfl⟩
  rw [← hck]
  have HM : Hid (∀ W (pf ps po : Int) (bk : Bool), Pt.ok ⟨pf, ps, po⟩ = bk → Calls Try.prog 42 #[.agg #[.int .i64 pf, .int .i64 ps, .int .i64 po]] W fun e w' => e = .returned (.bool bk) ∧ Below W.heap.size W w') := fun W pf ps po bk hh => by rw [← hh]; exact mmay_any pf ps po W
  have H2 := Lib.hid h
  have Hk := Lib.hid hk
  have Hck := Lib.hid hck
  have a27 := fun w' => Try.partAgg w'
  have s27 := fun w' => Try.partSize w'
  have n0 := fun w' => Try.notTm w'
  have n1 := fun w' => Try.notFm w'
  clear h hk hck
  go_enter Try.func18, Try.ntmps18
  go_wp2
  go_loopw [11] (fun x wr => ∃ i : Nat, i ≤ k ∧ x = .int .i64 (i : Int) ∧ Hid (Below w2.heap.size w2 wr ∧ ∀ j (hj : j < l.length), j < i → l[j].ok = true)) (fun x _ => k - (intOf x).toNat)
  case atStart => exact ⟨0, by omega, rfl, Below.refl _ _, fun j _ hj => by omega⟩
  case round =>
    obtain ⟨i, hi, rfl, HI⟩ := hrel
    by_cases hlt : i < k
    · have hil : i < l.length := by have := Hk.out; omega
      obtain ⟨b, off, rfl, hc'⟩ := pt_cells H2.out i hil
      obtain ⟨v0, v1, v2⟩ := hc' _ HI.out.1 i hil
      clear hc'
      obtain ⟨pf, hpf⟩ : ∃ x, x = l[i].f := ⟨_, rfl⟩
      obtain ⟨ps, hps⟩ : ∃ x, x = l[i].s := ⟨_, rfl⟩
      obtain ⟨po, hpo⟩ : ∃ x, x = l[i].o := ⟨_, rfl⟩
      obtain ⟨bk, hbk⟩ : ∃ x, x = l[i].ok := ⟨_, rfl⟩
      have hq : Pt.ok ⟨pf, ps, po⟩ = bk := by rw [hpf, hps, hpo, hbk]
      have HQ := Lib.hid hq
      have HBk := Lib.hid hbk
      have HB1 : Hid (Below w2.heap.size w2 (wr.alloc (.cells #[.int .i64 pf, .int .i64 ps, .int .i64 po] 27))) := HI.out.1.alloc HI.out.1.size _
      rw [← hpf] at v0
      rw [← hps] at v1
      rw [← hpo] at v2
      have d3 : decide ((i : Int) < (k : Int)) = true := decide_eq_true (by omega)
      have d4 : decide (i < k) = true := decide_eq_true hlt
      have y7 : IntKind.i64.wrap ((i : Int) + 1) = (i : Int) + 1 := IntWalk.i64_in _ (by omega)
      clear hpf hps hpo hbk hq
      cases bk
      · go_wp2_with (go_at_call 42; (with_reducible refine (HM.out _ _ _ _ _ HQ.out).mono ?_); rintro e w3 ⟨rfl, b3⟩)
        go_ret
        exact ⟨by rw [Hck.out, chkL_arg i hil HBk.out.symm]; rfl, chainM HB1.out b3⟩
      · go_wp2_with (go_at_call 42; (with_reducible refine (HM.out _ _ _ _ _ HQ.out).mono ?_); rintro e w3 ⟨rfl, b3⟩)
        go_roundw
        case rel => exact ⟨i + 1, by omega, by go_num, chainM HB1.out b3, fun j hj hji => by
          rcases Nat.lt_or_ge j i with h1 | h1
          · exact HI.out.2 j hj h1
          · obtain rfl : j = i := by omega
            exact HBk.out.symm⟩
        case measure => simp [intOf]; omega
    · have d3 : decide ((i : Int) < (k : Int)) = false := decide_eq_false (by omega)
      have d4 : decide (i < k) = false := decide_eq_false hlt
      have HA : Hid (∀ j (hj : j < l.length), l[j].ok = true) := fun j hj => HI.out.2 j hj (by have := Hk.out; omega)
      have HB3 : Hid (Below w2.heap.size w2 wr) := HI.out.1
      obtain ⟨wo, hwo⟩ : ∃ wo : World, wo = wr := ⟨_, rfl⟩
      subst hwo
      clear HI
      go_wp2
      clear d3 d4
      go_loopw [21] (fun x wr => ∃ i : Nat, i ≤ k ∧ x = .int .i64 (i : Int) ∧ Hid (Below w2.heap.size w2 wr ∧ ∀ q j (hj : j < l.length) (hq : q < j), j < i → l[q].f ≠ l[j].f)) (fun x _ => k - (intOf x).toNat)
      case atStart => exact ⟨0, by omega, rfl, HB3.out, fun q j hj hq hji => by omega⟩
      case round =>
        obtain ⟨i, hi, rfl, HI⟩ := hrel
        by_cases hlt : i < k
        · have hil : i < l.length := by have := Hk.out; omega
          obtain ⟨b, off, rfl, hc'⟩ := pt_cells H2.out i hil
          have HC := Lib.hid hc'
          obtain ⟨v0, v1, v2⟩ := hc' _ HI.out.1 i hil
          clear hc'
          obtain ⟨pf, hpf⟩ : ∃ x, x = l[i].f := ⟨_, rfl⟩
          obtain ⟨ps, hps⟩ : ∃ x, x = l[i].s := ⟨_, rfl⟩
          obtain ⟨po, hpo⟩ : ∃ x, x = l[i].o := ⟨_, rfl⟩
          rw [← hpf] at v0
          rw [← hps] at v1
          rw [← hpo] at v2
          have d3 : decide ((i : Int) < (k : Int)) = true := decide_eq_true (by omega)
          have d4 : decide (i < k) = true := decide_eq_true hlt
          have y8 : IntKind.i64.wrap ((i : Int) + 1) = (i : Int) + 1 := IntWalk.i64_in _ (by omega)
          have sl := fun W => psl_to (some ⟨b, off, none⟩) k c i (i : Int) rfl (by omega) W
          obtain ⟨wp, hwp⟩ : ∃ x : World, x = wr := ⟨_, rfl⟩
          subst hwp
          have HPf := Lib.hid hpf
          have HK6 : Hid (∀ W, Below (wp.alloc (.cells #[.int .i64 pf, .int .i64 ps, .int .i64 po] 27)).heap.size (wp.alloc (.cells #[.int .i64 pf, .int .i64 ps, .int .i64 po] 27)) W → W.cell? ⟨wp.heap.size, 0, none⟩ = some (.int .i64 pf)) := fun W hb => one_new _ _ _ _ _ hb
          have HB6 : Hid (Below w2.heap.size w2 (wp.alloc (.cells #[.int .i64 pf, .int .i64 ps, .int .i64 po] 27))) := HI.out.1.alloc HI.out.1.size _
          clear hpf hps hpo
          go_wp2
          obtain ⟨w6, hw6⟩ : ∃ x : World, x = wp.alloc (.cells #[.int .i64 pf, .int .i64 ps, .int .i64 po] 27) := ⟨_, rfl⟩
          rw [← hw6] at HK6 HB6
          rw [← hw6]
          obtain ⟨g6, hg6⟩ : ∃ x, x = wp.heap.size := ⟨_, rfl⟩
          rw [← hg6] at HK6
          rw [← hg6]
          clear hw6 hg6 v0 v1 v2
          go_loopw [30] (fun x wr => ∃ q : Nat, q ≤ i ∧ x = .int .i64 (q : Int) ∧ Hid (Below w6.heap.size w6 wr ∧ ∀ a (ha : a < l.length), a < q → l[a].f ≠ l[i].f)) (fun x _ => i - (intOf x).toNat)
          case atStart => exact ⟨0, by omega, rfl, Below.refl _ _, fun a _ ha => by omega⟩
          case round =>
            obtain ⟨q, hq, rfl, HQ⟩ := hrel
            by_cases hqi : q < i
            · have hqk : q < k := by omega
              have hql : q < l.length := by have := Hk.out; omega
              have d5 : decide ((q : Int) < (i : Int)) = true := decide_eq_true (by omega)
              have d6 : decide (q < i) = true := decide_eq_true hqi
              have y9 : IntKind.i64.wrap ((q : Int) + 1) = (q : Int) + 1 := IntWalk.i64_in _ (by omega)
              have HW : Hid (Below w2.heap.size w2 wr) := chainM HB6.out HQ.out.1
              obtain ⟨v0, v1, v2⟩ := HC.out _ HW.out q hql
              obtain ⟨zq, hzq⟩ : ∃ x, x = l[q].f := ⟨_, rfl⟩
              obtain ⟨zs, hzs⟩ : ∃ x, x = l[q].s := ⟨_, rfl⟩
              obtain ⟨zo, hzo⟩ : ∃ x, x = l[q].o := ⟨_, rfl⟩
              rw [← hzq] at v0
              rw [← hzs] at v1
              rw [← hzo] at v2
              have hbA : Below w6.heap.size w6 (wr.alloc (.cells #[.int .i64 zq, .int .i64 zs, .int .i64 zo] 27)) := HQ.out.1.alloc HQ.out.1.size _
              have x0 := HK6.out _ hbA
              have HbA := Lib.hid hbA
              by_cases he : zq = pf
              · have HT : Hid (ck = 7) := Hck.out.trans (chkL_twice HA.out q i hil hqi (by rw [← hzq, he, HPf.out]))
                clear hzq hzs hzo hbA
                subst he
                go_wp2
                go_ret
                exact ⟨by rw [HT.out]; rfl, chainM HB6.out HbA.out⟩
              · have e0 : (pf == zq) = false := by simpa using fun e => he e.symm
                have HN : Hid (l[q].f ≠ l[i].f) := by show _ ≠ _; rw [← hzq, ← HPf.out]; exact he
                clear hzq hzs hzo hbA
                go_wp2
                go_roundw
                case rel => exact ⟨q + 1, by omega, by go_num, HbA.out, fun a ha haq => by
                  rcases Nat.lt_or_ge a q with h1 | h1
                  · exact HQ.out.2 a ha h1
                  · obtain rfl : a = q := by omega
                    exact HN.out⟩
                case measure => simp [intOf]; omega
            · have d5 : decide ((q : Int) < (i : Int)) = false := decide_eq_false (by omega)
              have d6 : decide (q < i) = false := decide_eq_false hqi
              go_wp2
              go_roundw
              case rel => exact ⟨i + 1, by omega, by go_num, chainM HB6.out HQ.out.1, fun a j hj haj hji => by
                rcases Nat.lt_or_ge j i with h1 | h1
                · exact HI.out.2 a j hj haj h1
                · obtain rfl : j = i := by omega
                  exact HQ.out.2 a (by omega) (by omega)⟩
              case measure => simp [intOf]; omega
        · have d3 : decide ((i : Int) < (k : Int)) = false := decide_eq_false (by omega)
          have d4 : decide (i < k) = false := decide_eq_false hlt
          have H0 : Hid (ck = 0) := Hck.out.trans (chkL_fine HA.out fun q j hj hq => HI.out.2 q j hj hq (by have := Hk.out; omega))
          go_wp2
          go_ret
          exact ⟨by rw [H0.out]; rfl, HI.out.1⟩
set_option maxRecDepth 100000 in
set_option maxHeartbeats 4000000 in
theorem mcheck_any (m : Mf) (A : Option Addr) (c : Nat) (w : World) (h : MfAt w m A c) : Calls Try.prog 11 #[mfV m A c] w fun e w' => e = .returned (.int .i64 m.check) ∧ Below w.heap.size w w' := by
  obtain ⟨ck, hck⟩ : ∃ x, x = m.check := ⟨_, rfl⟩
  obtain ⟨n, hn⟩ : ∃ n, n = m.segs.length := ⟨_, rfl⟩
  obtain ⟨f, hf⟩ : ∃ n, n = m.snap.f := ⟨_, rfl⟩
  obtain ⟨s, hs⟩ : ∃ n, n = m.snap.s := ⟨_, rfl⟩
  obtain ⟨o, ho⟩ : ∃ n, n = m.snap.o := ⟨_, rfl⟩
  have hn1 : n ≤ 1000 := by rw [hn]; exact h.few
  have HP : Hid (∀ W, Below w.heap.size w W → Calls Try.prog 10 #[.agg #[.slice A n c, .int .i64 f, .int .i64 s, .int .i64 o]] W fun e w' => ∃ B d k, e = .returned (.slice B k d) ∧ Hid (k = m.parts.length ∧ k ≤ d) ∧ Hid (PtL w' w'.heap.size B m.parts) ∧ Below W.heap.size W w') := fun W hb => by
    have := mparts_own m A c W (h.up hb)
    unfold mfV at this
    rw [← hn, ← hf, ← hs, ← ho] at this
    refine this.mono fun e w' hh => ?_
    obtain ⟨B, d, k, he, hk, hp, hb'⟩ := hh
    refine ⟨B, d, k, he, ⟨hk.out, ?_⟩, hp.out.ptl, hb'⟩
    rw [hk.out]
    exact (pown_cap hp.out).1
  have HB : Hid (Below w.heap.size w (w.alloc (.cells #[.slice A n c, .int .i64 f, .int .i64 s, .int .i64 o] 29))) := (Below.refl _ _).alloc (Nat.le_refl _) _
  have Hn := Lib.hid hn
  have Hck := Lib.hid hck
  have a29 := fun w' => Try.manAgg w'
  have s29 := fun w' => Try.manSize w'
  unfold mfV
  rw [← hn, ← hf, ← hs, ← ho, ← hck]
  by_cases h8 : 8 < n
  · have d0 : decide ((8 : Int) < (n : Int)) = true := decide_eq_true (by omega)
    have d1 : decide ((n : Int) > 8) = true := decide_eq_true (by omega)
    have d2 : decide (8 < n) = true := decide_eq_true h8
    have h4 : ck = 4 := by rw [hck]; exact Mf.check_many (by omega)
    have H4 := Lib.hid h4
    clear h hn hf hs ho hck h4
    go_enter Try.func11, Try.ntmps11
    go_wp2
    go_ret
    exact ⟨by rw [H4.out]; rfl, HB.out⟩
  · have d0 : decide ((8 : Int) < (n : Int)) = false := decide_eq_false (by omega)
    have d1 : decide ((n : Int) > 8) = false := decide_eq_false (by omega)
    have d2 : decide (8 < n) = false := decide_eq_false h8
    have HC : Hid (∀ W B k d, k = m.parts.length ∧ k ≤ d → PtL W W.heap.size B m.parts → Calls Try.prog 18 #[.slice B k d] W fun e w' => e = .returned (.int .i64 ck) ∧ Below W.heap.size W w') := fun W B k d hk hp => by
      have e : ck = chkL m.parts := by rw [hck, m.check_eq, if_neg (by omega)]
      rw [e]
      exact check_any m.parts k B d W hk.1 (by have := m.parts_len; omega) hk.2 hp
    clear h hn hf hs ho hck
    go_enter Try.func11, Try.ntmps11
    go_wp2_with (first
      | (go_at_call 10; (with_reducible refine (HP.out _ HB.out).mono ?_); rintro e w2 ⟨B2, d2, k2, rfl, H2, H3, b2⟩)
      | (go_at_call 18; (with_reducible refine (HC.out _ _ _ _ H2.out H3.out).mono ?_); rintro e w3 ⟨rfl, b3⟩))
    go_ret
    exact ⟨rfl, chainM (chainM HB.out b2) b3⟩
end Go.Proofs.Ytnmcohdlogepdaa
end
section
set_option linter.unusedVariables false
set_option linter.unusedSimpArgs false
namespace Go.Proofs.Ytnmcohdlogepdaa
open Go.RowKit
structure Grew (w w' : World) (v v' : Value) : Prop where
  by_ : w.grownBy w' v.ownBlock
  at_ : v'.ownBlock = v.ownBlock ∨ ∀ k, v'.ownBlock = some k → w.heap.size ≤ k
theorem Grew.refl (w : World) (v : Value) : Grew w w v v := ⟨⟨rfl, rfl, rfl, Nat.le_refl _, fun _ _ _ => rfl⟩, .inl rfl⟩
theorem Grew.of_below {w w' : World} (h : Below w.heap.size w w') (v : Value) : Grew w w' v v := ⟨⟨h.os, h.tape, h.output, h.size, fun k hk _ => h.block k hk⟩, .inl rfl⟩
theorem Grew.trans {w w1 w2 : World} {v v1 v2 : Value} (h : Grew w w1 v v1) (k : Grew w1 w2 v1 v2) : Grew w w2 v v2 := by
  have hs := h.by_.size
  refine ⟨⟨k.by_.os.trans h.by_.os, k.by_.tape.trans h.by_.tape, k.by_.output.trans h.by_.output, Nat.le_trans hs k.by_.size, fun j hj hne => ?_⟩, ?_⟩
  · refine (k.by_.block j (by omega) fun e => ?_).trans (h.by_.block j hj hne)
    rcases h.at_ with h1 | h1
    · exact hne (e.trans h1)
    · have := h1 j e.symm
      omega
  · rcases k.at_ with h2 | h2
    · rcases h.at_ with h1 | h1
      · exact .inl (h2.trans h1)
      · exact .inr fun j hj => h1 j (h2 ▸ hj)
    · exact .inr fun j hj => Nat.le_trans hs (h2 j hj)
theorem Grew.below {base : Nat} {w0 w w' : World} {v v' : Value} (h : Grew w w' v v') (hb : Below base w0 w) (hB : base ≤ w0.heap.size) (hv : ∀ k, v.ownBlock = some k → base ≤ k) : Below base w0 w' :=
  hb.grown h.by_ (Nat.le_trans hB hb.size) hv
theorem Grew.blk {w w' : World} {v v' : Value} {g : Nat} {t : TypeId} {cs : Array Value} (h : Grew w w' v v') (hg : Blk w g t cs) (hne : v.ownBlock ≠ some g) : Blk w' g t cs := hg.grown h.by_ fun e => hne e.symm
def nbytesL : List Nat → List UInt8
  | [] => []
  | n :: l => putL n ++ nbytesL l
theorem nbytesL_append : ∀ a b : List Nat, nbytesL (a ++ b) = nbytesL a ++ nbytesL b
  | [], _ => rfl
  | n :: a, b => by simp [nbytesL, nbytesL_append a b]
theorem nbytesL_take_succ (l : List Nat) (i : Nat) (hi : i < l.length) : nbytesL (l.take (i + 1)) = nbytesL (l.take i) ++ putL l[i] := by
  rw [List.take_succ_eq_append_getElem hi, nbytesL_append]
  simp [nbytesL]
def ncells (l : List Nat) : List Value := l.map fun (n : Nat) => .int .i64 (n : Int)
set_option maxRecDepth 100000 in
set_option maxHeartbeats 4000000 in
theorem appnums_any (l : List Nat) (n : Nat) (P : List UInt8) (base q c g : Nat) (A : Option Addr) (w : World) (hn : n = l.length) (hl : ∀ x ∈ l, x ≤ 2147483647) (hn3 : n ≤ 3) (hg : Blk w g 3 (ncells l).toArray) (ho : w.ownsRow base 5 1 (.slice A q c) q (cells P)) (hq : q ≤ 500) (hb : base ≤ w.heap.size) :
    Calls Try.prog 50 #[.slice A q c, .slice (some ⟨g, 0, none⟩) n n] w fun e w' => ∃ A' q' c', e = .returned (.slice A' q' c') ∧ q' ≤ q + 5 * n ∧ Hid (w'.ownsRow base 5 1 (.slice A' q' c') q' (cells (P ++ nbytesL l))) ∧ Hid (Grew w w' (.slice A q c) (.slice A' q' c')) := by
  obtain ⟨i0, hi0, hz0, hz1, hz2⟩ := info_parts Try.info5
  have HP : Hid (∀ (i : Nat) (hi : i < l.length) W, Calls Try.prog 49 #[.int .i64 (l[i] : Int)] W fun e w' => ∃ A' k c', e = .returned (.tuple #[.slice A' k c', .int .i64 0]) ∧ k ≤ 5 ∧ Hid (k = (putL l[i]).length ∧ RB w' w'.heap.size A' (putL l[i])) ∧ Below W.heap.size W w') := fun i hi W => by
    have hx := hl _ (List.getElem_mem hi)
    refine (put_yes l[i] W hx).mono fun e w' hh => ?_
    obtain ⟨A', c', he, hown, hb'⟩ := hh
    exact ⟨A', _, c', he, putL_len5 _ (by omega), ⟨rfl, own_rb hown⟩, hb'⟩
  have HG := Lib.hid hg
  have HO := Lib.hid ho
  have Hn := Lib.hid hn
  clear hl hg ho hn
  go_enter Try.func50, Try.ntmps50
  go_wp2
  go_loopw [0, 11] (fun v x wr => ∃ (i q1 c1 : Nat) (A1 : Option Addr), i ≤ n ∧ q1 ≤ q + 5 * i ∧ v = .slice A1 q1 c1 ∧ x = .int .i64 (i : Int) ∧ Hid (wr.ownsRow base 5 1 (.slice A1 q1 c1) q1 (cells (P ++ nbytesL (l.take i))) ∧ Grew w wr (.slice A q c) (.slice A1 q1 c1) ∧ Blk wr g 3 (ncells l).toArray)) (fun _ x _ => n - (intOf x).toNat)
  case atStart => exact ⟨0, q, c, A, by omega, by omega, rfl, rfl, by simpa [nbytesL] using HO.out, Grew.refl _ _, HG.out⟩
  case round =>
    obtain ⟨i, q1, c1, A1, hi, hq1, rfl, rfl, HI⟩ := hrel
    by_cases hlt : i < n
    · have hil : i < l.length := by have := Hn.out; omega
      have v0 : wr.cell? ⟨g, i, none⟩ = some (.int .i64 (l[i] : Int)) := by
        rw [HI.out.2.2.cell]
        simp [ncells, hil]
      have HPi := Lib.hid (HP.out i hil)
      have HT := Lib.hid (nbytesL_take_succ l i hil)
      obtain ⟨xi, hxi⟩ : ∃ x, x = l[i] := ⟨_, rfl⟩
      rw [← hxi] at v0 HPi HT
      have d3 : decide ((i : Int) < (n : Int)) = true := decide_eq_true (by omega)
      have d4 : decide (i < n) = true := decide_eq_true hlt
      have y7 : IntKind.i64.wrap ((i : Int) + 1) = (i : Int) + 1 := IntWalk.i64_in _ (by omega)
      have hsz := HI.out.2.1.by_.size
      clear hxi
      go_wp2_with (first
        | (go_at_call 49; (with_reducible refine (HPi.out _).mono ?_); rintro e w2 ⟨A2, k2, c2, rfl, hk2, H2, b2⟩; have hz2' := b2.size)
        | (at_builtin; refine wpList_append_any _ rfl (.tmp 20) (.tmp 21) 22 rfl base 5 i0 _ 1 1 Try.underlying22 hi0 hz0 hz1 hz2 rfl (by omega) (.slice A1 q1 c1) q1 (cells (P ++ nbytesL (l.take i))) rfl (own_kept HI.out.1 b2) w2.heap.size A2 k2 c2 (cells (putL xi)) rfl (by have := H2.out.2; unfold RB at this; rwa [← H2.out.1] at this) (cells_one _) (by simp only [maxLen]; omega) (by omega) (by omega) ?_; intro v3 w3 ho3 hg3 hat3; obtain ⟨A3, c3, rfl⟩ := own_form ho3))
      have HGr : Hid (Grew wr w3 (.slice A1 q1 c1) (.slice A3 (q1 + k2) c3)) := (Grew.of_below b2 _).trans ⟨hg3, hat3.imp id fun e k hk => by rw [e] at hk; injection hk with hk; omega⟩
      go_roundw
      case rel =>
        refine ⟨i + 1, q1 + k2, c3, A3, by omega, by omega, rfl, by go_num, ?_, HI.out.2.1.trans HGr.out, HGr.out.blk HI.out.2.2 (own_blk_ne HI.out.1 HI.out.2.2 (by decide))⟩
        rw [HT.out, ← List.append_assoc, cells_append]
        exact ho3
      case measure => simp [intOf]; omega
    · have hin : i = n := by omega
      have htk : l.take i = l := List.take_of_length_le (by have := Hn.out; omega)
      rw [htk] at HI
      have d3 : decide ((i : Int) < (n : Int)) = false := decide_eq_false (by omega)
      have d4 : decide (i < n) = false := decide_eq_false hlt
      clear htk
      go_wp2
      go_ret
      exact ⟨A1, q1, c1, rfl, by omega, HI.out.1, HI.out.2.1⟩
theorem Pt.one_nums {p : Pt} {a b c : Nat} (h1 : p.f = (a : Int)) (h2 : p.s = (b : Int)) (h3 : p.o = (c : Int)) : p.one = nbytesL [a, b, c] := by
  simp [Pt.one, h1, h2, h3, nbytesL]
theorem onesL_takeS (l : List Pt) (i : Nat) (hi : i < l.length) : onesL (l.take (i + 1)) = onesL (l.take i) ++ l[i].one := by
  rw [List.take_succ_eq_append_getElem hi, onesL_append]
  simp [onesL]
set_option maxRecDepth 100000 in
set_option maxHeartbeats 4000000 in
theorem appparts_any (l : List Pt) (n : Nat) (P : List UInt8) (base q c d : Nat) (A B : Option Addr) (w : World) (hn : n = l.length) (hl : ∀ p ∈ l, p.ok = true) (hn8 : n ≤ 8) (hp : PtL w w.heap.size B l) (hB : 0 < l.length → ∀ ad, B = some ad → (Value.slice A q c).ownBlock ≠ some ad.block) (ho : w.ownsRow base 5 1 (.slice A q c) q (cells P)) (hq : q ≤ 200) (hb : base ≤ w.heap.size) :
    Calls Try.prog 29 #[.slice A q c, .slice B n d] w fun e w' => ∃ A' q' c', e = .returned (.slice A' q' c') ∧ q' ≤ q + 5 + 15 * n ∧ Hid (w'.ownsRow base 5 1 (.slice A' q' c') q' (cells (P ++ (putL n ++ onesL l)))) ∧ Hid (Grew w w' (.slice A q c) (.slice A' q' c')) := by
  have H1 : Hid (Calls Try.prog 50 #[.slice A q c, .slice (some ⟨w.heap.size, 0, none⟩) 1 1] (w.alloc (.cells #[.int .i64 (n : Int)] 3)) fun e w' => ∃ A' q' c', e = .returned (.slice A' q' c') ∧ q' ≤ q + 5 ∧ Hid (w'.ownsRow base 5 1 (.slice A' q' c') q' (cells (P ++ putL n))) ∧ Hid (Grew w w' (.slice A q c) (.slice A' q' c'))) := by
    refine (appnums_any [n] 1 P base q c w.heap.size A _ rfl (by simp; omega) (by omega) (Blk.new w 3 (ncells [n]).toArray) (ho.alloc _) (by omega) (by simp; omega)).mono fun e w' hh => ?_
    obtain ⟨A', q', c', he, hq', ho', hg'⟩ := hh
    refine ⟨A', q', c', he, by omega, ?_, (Grew.of_below ((Below.refl _ _).alloc (Nat.le_refl _) _) _).trans hg'.out⟩
    have := ho'.out
    rwa [show nbytesL [n] = putL n by simp [nbytesL]] at this
  have H3 : Hid (∀ (W : World) (A1 : Option Addr) (q1 c1 : Nat) (P1 : List UInt8) (p : Pt) (x y z : Nat), q1 ≤ 400 → p.ok = true → (p.f = (x : Int) ∧ p.s = (y : Int) ∧ p.o = (z : Int)) → base ≤ W.heap.size → W.ownsRow base 5 1 (.slice A1 q1 c1) q1 (cells P1) → Calls Try.prog 50 #[.slice A1 q1 c1, .slice (some ⟨W.heap.size, 0, none⟩) 3 3] (W.alloc (.cells #[.int .i64 (x : Int), .int .i64 (y : Int), .int .i64 (z : Int)] 3)) fun e w' => ∃ A' q' c', e = .returned (.slice A' q' c') ∧ q' ≤ q1 + 15 ∧ Hid (w'.ownsRow base 5 1 (.slice A' q' c') q' (cells (P1 ++ p.one))) ∧ Hid (Grew W w' (.slice A1 q1 c1) (.slice A' q' c'))) := fun W A1 q1 c1 P1 p x y z hq1 hok hp hbW hoW => by
    have h6 := Pt.ok_iff.1 hok
    obtain ⟨e1, e2, e3⟩ := hp
    refine (appnums_any [x, y, z] 3 P1 base q1 c1 W.heap.size A1 _ rfl (by simp; omega) (by omega) (Blk.new W 3 (ncells [x, y, z]).toArray) (hoW.alloc _) (by omega) (by simp; omega)).mono fun e w' hh => ?_
    obtain ⟨A', q', c', he, hq', ho', hg'⟩ := hh
    refine ⟨A', q', c', he, by omega, ?_, (Grew.of_below ((Below.refl _ _).alloc (Nat.le_refl _) _) _).trans hg'.out⟩
    rw [Pt.one_nums e1 e2 e3]
    exact ho'.out
  have HL := Lib.hid hl
  have HB := Lib.hid hB
  have HPt := Lib.hid hp
  have Hn := Lib.hid hn
  have a27 := fun w' => Try.partAgg w'
  have s27 := fun w' => Try.partSize w'
  clear hl hB hp ho hn
  go_enter Try.func29, Try.ntmps29
  go_wp2_with (go_at_call 50; (with_reducible refine H1.out.mono ?_); rintro e w1 ⟨A1, q1, c1, rfl, hq1, HO1, HG1⟩)
  go_loopw [0, 14] (fun v x wr => ∃ (i q2 c2 : Nat) (A2 : Option Addr), i ≤ n ∧ q2 ≤ q + 5 + 15 * i ∧ v = .slice A2 q2 c2 ∧ x = .int .i64 (i : Int) ∧ Hid (wr.ownsRow base 5 1 (.slice A2 q2 c2) q2 (cells (P ++ (putL n ++ onesL (l.take i)))) ∧ Grew w wr (.slice A q c) (.slice A2 q2 c2))) (fun _ x _ => n - (intOf x).toNat)
  case atStart => exact ⟨0, q1, c1, A1, by omega, by omega, rfl, rfl, by simpa [onesL] using HO1.out, HG1.out⟩
  case round =>
    obtain ⟨i, q2, c2, A2, hi, hq2, rfl, rfl, HI⟩ := hrel
    by_cases hlt : i < n
    · have hil : i < l.length := by have := Hn.out; omega
      obtain ⟨b, off, rfl, hbl, hc⟩ := HPt.out (by omega)
      obtain ⟨k0, k1, k2⟩ := hc i hil
      have hne := HB.out (by omega) _ rfl
      have v0 : wr.cell? ⟨b, off + i * 3, none⟩ = some (.int .i64 l[i].f) := HI.out.2.by_.cell k0 fun e => hne e.symm
      have v1 : wr.cell? ⟨b, off + i * 3 + 1, none⟩ = some (.int .i64 l[i].s) := HI.out.2.by_.cell k1 fun e => hne e.symm
      have v2 : wr.cell? ⟨b, off + i * 3 + 2, none⟩ = some (.int .i64 l[i].o) := HI.out.2.by_.cell k2 fun e => hne e.symm
      have HT := Lib.hid (onesL_takeS l i hil)
      have hok := HL.out _ (List.getElem_mem hil)
      have h6 := Pt.ok_iff.1 hok
      obtain ⟨x, hx⟩ : ∃ x : Nat, l[i].f = (x : Int) := ⟨l[i].f.toNat, by omega⟩
      obtain ⟨y, hy⟩ : ∃ x : Nat, l[i].s = (x : Int) := ⟨l[i].s.toNat, by omega⟩
      obtain ⟨z, hz⟩ : ∃ x : Nat, l[i].o = (x : Int) := ⟨l[i].o.toNat, by omega⟩
      rw [hx] at v0
      rw [hy] at v1
      rw [hz] at v2
      have hsz := HI.out.2.by_.size
      have H4 := Lib.hid (H3.out (wr.alloc (.cells #[.int .i64 (x : Int), .int .i64 (y : Int), .int .i64 (z : Int)] 27)) A2 q2 c2 (P ++ (putL n ++ onesL (l.take i))) l[i] x y z (by omega) hok ⟨hx, hy, hz⟩ (by simp; omega) (HI.out.1.alloc _))
      have d3 : decide ((i : Int) < (n : Int)) = true := decide_eq_true (by omega)
      have d4 : decide (i < n) = true := decide_eq_true hlt
      have y7 : IntKind.i64.wrap ((i : Int) + 1) = (i : Int) + 1 := IntWalk.i64_in _ (by omega)
      clear hc k0 k1 k2 hne hok h6 hx hy hz hsz
      have HGa : Hid (Grew wr (wr.alloc (.cells #[.int .i64 (x : Int), .int .i64 (y : Int), .int .i64 (z : Int)] 27)) (.slice A2 q2 c2) (.slice A2 q2 c2)) := Grew.of_below ((Below.refl _ _).alloc (Nat.le_refl _) _) _
      obtain ⟨w6, hw6⟩ : ∃ W, W = wr.alloc (.cells #[.int .i64 (x : Int), .int .i64 (y : Int), .int .i64 (z : Int)] 27) := ⟨_, rfl⟩
      have Hw6 := Lib.hid hw6
      have hk6 : w6.cell? ⟨wr.heap.size, 0, none⟩ = some (.int .i64 (x : Int)) ∧ w6.cell? ⟨wr.heap.size, 1, none⟩ = some (.int .i64 (y : Int)) ∧ w6.cell? ⟨wr.heap.size, 2, none⟩ = some (.int .i64 (z : Int)) := by
        have h1 := Blk.new wr 27 #[.int .i64 (x : Int), .int .i64 (y : Int), .int .i64 (z : Int)]
        rw [← hw6] at h1
        exact ⟨by rw [h1.cell]; rfl, by rw [h1.cell]; rfl, by rw [h1.cell]; rfl⟩
      obtain ⟨z0, z1, z2⟩ := hk6
      rw [← hw6] at H4 HGa
      clear hw6
      go_upto_region 5 with (fail)
      rw [← Hw6.out]
      obtain ⟨g6, hg6⟩ : ∃ x, x = wr.heap.size := ⟨_, rfl⟩
      rw [← hg6] at z0 z1 z2
      rw [← hg6]
      clear hg6 v0 v1 v2
      go_wp2_with (go_at_call 50; (with_reducible refine H4.out.mono ?_); rintro e w7 ⟨A7, q7, c7, rfl, hq7, HO7, HG7⟩)
      go_roundw
      case rel =>
        refine ⟨i + 1, q7, c7, A7, by omega, by omega, rfl, by go_num, ?_, HI.out.2.trans (HGa.out.trans HG7.out)⟩
        have := HO7.out
        rwa [List.append_assoc, List.append_assoc, ← HT.out] at this
      case measure => simp [intOf]; omega
    · have hin : i = n := by omega
      have htk : l.take i = l := List.take_of_length_le (by have := Hn.out; omega)
      rw [htk] at HI
      have d3 : decide ((i : Int) < (n : Int)) = false := decide_eq_false (by omega)
      have d4 : decide (i < n) = false := decide_eq_false hlt
      clear htk
      go_wp2
      go_ret
      exact ⟨A2, q2, c2, rfl, by omega, HI.out.1, HI.out.2⟩
end Go.Proofs.Ytnmcohdlogepdaa
end
