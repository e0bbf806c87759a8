/- Lemmas under the proofs of this place: ManPGet. No statement is proved here. -/
import Derived.Test.YtnmcohdlogepdaaBu23
import Derived.Test.YtnmcohdlogepdaaBu21
import Derived.Test.YtnmcohdlogepdaaBu14
set_option linter.unusedVariables false
set_option linter.unusedSimpArgs false
namespace Go.Proofs.Ytnmcohdlogepdaa
open Go.RowKit
theorem res_man (w W : World) (hb : Below (w.alloc (.cells #[.slice none 0 0, .int .i64 0, .int .i64 0, .int .i64 0] 29)).heap.size (w.alloc (.cells #[.slice none 0 0, .int .i64 0, .int .i64 0, .int .i64 0] 29)) W) : Blk W w.heap.size 29 #[.slice none 0 0, .int .i64 0, .int .i64 0, .int .i64 0] :=
  Blk.below (Blk.new w _ _) hb (by simp)
set_option maxRecDepth 100000 in
set_option maxHeartbeats 4000000 in
theorem mget_sum (b : List UInt8) (n : Nat) (A : Option Addr) (c : Nat) (w : World) (hn : n = b.length) (hr : RB w w.heap.size A b) (hc : n ≤ c) (hcm : c ≤ 9223372036854775807) (hl : n ≤ 1000) (ho : openL b = none) :
    Calls Try.prog 6 #[.slice A n c] w (GivesMfN (Mf.get b) w) := by
  have HV : Hid (Mf.get b = (Mf.zero, 12)) := by show _ = _; unfold Mf.get; rw [ho]
  have HO : Hid (∀ W, Below w.heap.size w W → Calls Try.prog 14 #[.slice A n c] W fun e w' => e = .returned (.tuple #[.slice none 0 0, .int .i64 12]) ∧ Below W.heap.size W w') := fun W hb => by
    have := open_any b A c _ W (rb_up7 hr hb) (by omega) hcm (by omega)
    rw [ho, ← hn] at this
    exact this
  have HB : Hid (Below w.heap.size w (w.alloc (.cells #[.slice none 0 0, .int .i64 0, .int .i64 0, .int .i64 0] 29))) := (Below.refl _ _).alloc (Nat.le_refl _) _
  have HC := Lib.hid (fun W hb => res_man w W hb)
  have nb := fun w' => Try.manZero w'
  have a29 := fun w' => Try.manAgg w'
  have s29 := fun w' => Try.manSize w'
  clear hn hr hc hcm hl ho
  go_enter Try.func6, Try.ntmps6
  go_wp2_with (go_at_call 14; (with_reducible refine (HO.out _ HB.out).mono ?_); rintro e w1 ⟨rfl, hb1⟩; have K1 := HC.out _ hb1; obtain ⟨p0, p1, p2, p3⟩ := blk4 K1; have pf := K1.frozen; have pl := K1.lt)
  obtain ⟨E, hE⟩ : ∃ E, E = ((((w1.setCell ⟨w.heap.size, 0, none⟩ (.slice none 0 0)).setCell ⟨w.heap.size, 1, none⟩ (.int .i64 0)).setCell ⟨w.heap.size, 2, none⟩ (.int .i64 0)).setCell ⟨w.heap.size, 3, none⟩ (.int .i64 0)) := ⟨_, rfl⟩
  obtain ⟨⟨r0, r1, r2, r3⟩, hbE, hm⟩ := man_end (chainM HB.out hb1) K1 (Nat.le_refl _) hE
  rw [← hE]
  refine bodyPost_ret (v := .tuple #[.agg #[.slice none 0 0, .int .i64 0, .int .i64 0, .int .i64 0], .int .i64 12]) (by simp [results, Try.results6, go_sem, r0, r1, r2, r3]) rfl ?_
  rw [HV.out]
  exact ⟨none, 0, rfl, mfAt_zero E, hbE, fun _ e => nomatch e⟩
theorem cur_up {w w' : World} {g : Nat} {st : St} (h : Cur w g st) (hb : Below w.heap.size w w') : Cur w' g st :=
  (h.at_.keep (hb.block g h.at_.lt) fun p hp => hb.cell hp).cur hb.size
def Rw (w : World) (base : Nat) (A : Option Addr) (n c : Nat) (l : List Pt) : Prop := n = l.length ∧ w.ownsRow base 27 3 (.slice A n c) n (ptCells l)
theorem Rw.only {w w' : World} {base g n c : Nat} {A : Option Addr} {l : List Pt} (h : Rw w base A n c l) (ho : Only w w' g) (hg : g < base) : Rw w' base A n c l :=
  ⟨h.1, pown_only h.2 ho fun e => by have := (h.2.lt _ e).1; omega⟩
theorem Rw.up {w w' : World} {base n c : Nat} {A : Option Addr} {l : List Pt} (h : Rw w base A n c l) (hb : Below w.heap.size w w') : Rw w' base A n c l := ⟨h.1, pown_kept h.2 hb⟩
theorem Rw.ptl {w : World} {base n c : Nat} {A : Option Addr} {l : List Pt} (h : Rw w base A n c l) : PtL w w.heap.size A l := by
  obtain ⟨h1, h2⟩ := h
  subst h1
  exact PtN.ptl (w := w) (base := base) (c := c) h2
theorem Rw.reads {w : World} {base n c : Nat} {A : Option Addr} {l : List Pt} (h : Rw w base A n c l) : Reads w w.heap.size 3 A n (ptCells l) := Reads.of_own h.2
theorem Rw.far {w : World} {base n c k : Nat} {A : Option Addr} {l : List Pt} (h : Rw w base A n c l) (hk : k < base) (ad : Addr) (e : A = some ad) (h0 : 0 < n) : ad.block ≠ k := by
  rcases h.2.2 with ⟨h1, h2⟩ | ⟨g, cap, cur, h1, h2, _⟩
  · omega
  · simp only [Value.slice.injEq] at h1
    obtain ⟨rfl, -, -⟩ := h1
    injection e with e
    rw [← e]
    show g ≠ k
    omega
theorem Rw.base_le {w : World} {base n c : Nat} {A : Option Addr} {l : List Pt} (h : Rw w base A n c l) (ad : Addr) (e : A = some ad) : base ≤ ad.block := by
  rcases h.2.2 with ⟨h1, h2⟩ | ⟨g, cap, cur, h1, h2, _⟩
  · simp only [Value.slice.injEq] at h1
    rw [h1.1] at e
    cases e
  · simp only [Value.slice.injEq] at h1
    obtain ⟨rfl, -, -⟩ := h1
    injection e with e
    rw [← e]
    exact h2
structure Got (w W : World) (g : Nat) (st : St) (b1 b2 : Nat) (A4 A5 : Option Addr) (n4 c4 n5 c5 : Nat) (l1 l2 : List Pt) : Prop where
  below : Below w.heap.size w W
  k : Blk W w.heap.size 29 #[.slice none 0 0, .int .i64 0, .int .i64 0, .int .i64 0]
  cur : Cur W g st
  r1 : Rw W b1 A4 n4 c4 l1
  r2 : Rw W b2 A5 n5 c5 l2
  ord : w.heap.size < b1 ∧ w.heap.size < b2
section
variable {w W W' : World} {g : Nat} {st : St} {b1 b2 : Nat} {A4 A5 : Option Addr} {n4 c4 n5 c5 : Nat} {l1 l2 : List Pt}
theorem Got.up (h : Got w W g st b1 b2 A4 A5 n4 c4 n5 c5 l1 l2) (hb : Below W.heap.size W W') : Got w W' g st b1 b2 A4 A5 n4 c4 n5 c5 l1 l2 :=
  ⟨chainM h.below hb, h.k.below hb h.k.lt, cur_up h.cur hb, h.r1.up hb, h.r2.up hb, h.ord⟩
theorem got_at {w2 w3 w4 w5 : World} {s1 : St} (hb : Below w.heap.size w w2) (K : Blk w2 w.heap.size 29 #[.slice none 0 0, .int .i64 0, .int .i64 0, .int .i64 0]) (hg : w.heap.size < g) (h3 : Cur w3 g s1) (o3 : Only w2 w3 g) (o4 : Only w3 w4 g) (o5 : Only w4 w5 g)
    (h4 : n4 = l1.length ∧ w4.ownsRow w3.heap.size 27 3 (.slice A4 n4 c4) n4 (ptCells l1)) (h5 : n5 = l2.length ∧ w5.ownsRow w4.heap.size 27 3 (.slice A5 n5 c5) n5 (ptCells l2)) (hc : Cur w5 g st) : Got w w5 g st w3.heap.size w4.heap.size A4 A5 n4 c4 n5 c5 l1 l2 := by
  have ho := only_trans o3 (only_trans o4 o5)
  have h1 := K.lt
  have z3 := o3.size
  have z4 := o4.size
  exact ⟨below_only hb ho (by omega) hb.size, K.only ho (by omega), hc, Rw.only h4 o5 h3.at_.lt, h5, by omega, by omega⟩
theorem Got.mf (h : Got w W g st b1 b2 A4 A5 n4 c4 n5 c5 l1 l2) (h4 : n4 ≤ 8) (p : Pt) : MfAt W ⟨l1, p⟩ A4 c4 :=
  ⟨h.r1.ptl, by have := pown_cap h.r1.2; rw [h.r1.1] at this; exact this, by have := h.r1.1; show l1.length ≤ 1000; omega⟩
theorem Got.away (h : Got w W g st b1 b2 A4 A5 n4 c4 n5 c5 l1 l2) (ad : Addr) (e : A4 = some ad) : ad.block ≠ w.heap.size := by
  have h1 := h.r1.base_le ad e
  have h2 := h.ord.1
  omega
theorem Got.concat (h : Got w W g st b1 b2 A4 A5 n4 c4 n5 c5 l1 l2) (h4 : n4 ≤ 8) (h5 : n5 ≤ 8) : Calls Try.prog 19 #[.slice (some ⟨W.heap.size, 0, none⟩) 2 2] (W.alloc (.cells #[.slice A4 n4 c4, .slice A5 n5 c5] 25)) fun e w' => ∃ A c k, e = .returned (.slice A k c) ∧ Hid ((k = (l1 ++ l2).length ∧ k ≤ c ∧ k ≤ 1001) ∧ PtL w' w'.heap.size A (l1 ++ l2)) ∧ Below W.heap.size W w' := by
  have hb : Below W.heap.size W (W.alloc (.cells #[.slice A4 n4 c4, .slice A5 n5 c5] 25)) := (Below.refl _ _).alloc (Nat.le_refl _) _
  have h2 := two_new W A4 A5 n4 n5 c4 c5 25
  refine (pconcat_any l1 l2 n4 n5 A4 A5 c4 c5 W.heap.size 0 _ h.r1.1 h.r2.1 (by omega) (by omega) (by simp) h2.1 h2.2 (h.r1.up hb).reads (h.r2.up hb).reads).mono fun e w' hh => ?_
  obtain ⟨A', c', k', he, hk', ho, hb'⟩ := hh
  have e1 : k' = (l1 ++ l2).length := by rw [hk', h.r1.1, h.r2.1, List.length_append]
  exact ⟨A', c', k', he, ⟨⟨e1, (pown_cap ho).1, by omega⟩, Rw.ptl ⟨e1, ho⟩⟩, chainM hb hb'⟩
end
set_option maxRecDepth 100000 in
set_option maxHeartbeats 8000000 in
theorem mget_in (b M : List UInt8) (n : Nat) (A : Option Addr) (c : Nat) (w : World) (hn : n = b.length) (hr : RB w w.heap.size A b) (hc : n ≤ c) (hcm : c ≤ 9223372036854775807) (hl : n ≤ 1000) (ho : openL b = some M) :
    Calls Try.prog 6 #[.slice A n c] w (GivesMfN (Mf.get b) w) := by
  obtain ⟨r, hR⟩ : ∃ r, r = Mf.get b := ⟨_, rfl⟩
  rw [← hR]
  have hG := get_procP ho
  obtain ⟨m, hm⟩ : ∃ m, m = M.length := ⟨_, rfl⟩
  have hm1 : m ≤ 1000 := by have := (openL_some ho).2; omega
  have HO : Hid (∀ W, Below w.heap.size w W → Calls Try.prog 14 #[.slice A n c] W fun e w' => ∃ A c, e = .returned (.tuple #[.slice A m c, .int .i64 0]) ∧ Hid (RB w' w'.heap.size A M) ∧ Below W.heap.size W w') := fun W hb => by
    have := open_any b A c _ W (rb_up7 hr hb) (by omega) hcm (by omega)
    rw [ho, ← hn] at this
    refine this.mono fun e w' hh => ?_
    obtain ⟨A, c, he, h2, h3⟩ := hh
    rw [← hm] at he
    exact ⟨A, c, he, own_rb h2, h3⟩
  have HF : Hid (∀ W (A : Option Addr) (c : Nat), RB W W.heap.size A M → Calls Try.prog 15 #[.slice A m c] W fun e w' => ∃ g, e = .returned (.pointer (some ⟨g, 0, none⟩)) ∧ Hid (W.heap.size ≤ g) ∧ Hid (Cur w' g (some M)) ∧ Below W.heap.size W w') := fun W A c h => by
    have := from_any M A c W h (by omega)
    rw [← hm] at this
    exact this
  obtain ⟨s1, T, hx⟩ : ∃ a b, stepText (some M) = (a, b) := ⟨_, _, rfl⟩
  obtain ⟨s2, l1, f1, hy⟩ : ∃ a b c, takeP 8 s1 = (a, b, c) := ⟨_, _, _, rfl⟩
  obtain ⟨s3, l2, f2, hz⟩ : ∃ a b c, takeP 1 s2 = (a, b, c) := ⟨_, _, _, rfl⟩
  have e : procP M = (decide (T = [109, 97, 110]) && (f1 && (f2 && (decide (chkL (l1 ++ l2) = 0) && (s3.isSome && decide (leftN s3 = 0))))), ⟨l1, l2.headD Pt.z⟩) := by
    unfold procP
    rw [hx]
    simp only []
    rw [hy]
    simp only []
    rw [hz]
  rw [e, ← hR] at hG
  obtain ⟨tl, htl⟩ : ∃ x, x = T.length := ⟨_, rfl⟩
  obtain ⟨bg, hbg⟩ : ∃ x, x = decide (T = [109, 97, 110]) := ⟨_, rfl⟩
  rw [← hbg] at hG
  have HTx : Hid (∀ W g, Cur W g (some M) → Calls Try.prog 16 #[.pointer (some ⟨g, 0, none⟩)] W fun e w' => ∃ A c, e = .returned (.slice A tl c) ∧ Hid (RB w' w'.heap.size A T) ∧ Hid (Cur w' g s1) ∧ Hid (Only W w' g)) := fun W g h => by
    have := ctext_any g (some M) W h
    rw [hx] at this
    refine this.mono fun e w' hh => ?_
    obtain ⟨A, c, he, h1, h2, h3⟩ := hh
    exact ⟨A, c, by rw [htl]; exact he, h1, h2, h3⟩
  have HSt : Hid (∀ W A c, RB W W.heap.size A T → (convert 22 9 (.slice A tl c)).run Try.prog W = .ok (.string ⟨T.toArray⟩) W) := fun W A c h => by
    exact aw_str h tl c htl
  have hb1 : (T == [109, 97, 110]) = bg := by
    rw [hbg]
    by_cases hT : T = [109, 97, 110]
    · rw [decide_eq_true hT, beq_iff_eq]; exact hT
    · rw [decide_eq_false hT, beq_eq_false_iff_ne]; exact hT
  have HTa : Hid (∀ (most : Nat) W st g t l f, most ≤ 8 → takeP most st = (t, l, f) → Cur W g st → Calls Try.prog 17 #[.pointer (some ⟨g, 0, none⟩), .int .i64 (most : Int)] W fun e w' => ∃ A n c, e = .returned (.tuple #[.slice A n c, .bool f]) ∧ n ≤ 8 ∧ Hid (n = l.length ∧ w'.ownsRow W.heap.size 27 3 (.slice A n c) n (ptCells l)) ∧ Hid (Cur w' g t) ∧ Hid (Only W w' g)) := fun most W st g t l f hm ht h => by
    have := takeparts_at W.heap.size g most st W h.at_ (Nat.le_refl _) hm
    rw [ht] at this
    refine this.mono fun e w' hh => ?_
    obtain ⟨A, n, c, he, hn8, hrow, hcur, honly⟩ := hh
    exact ⟨A, n, c, he, hn8, hrow, hcur.cur honly.size, honly⟩
  have HT1 : Hid (∀ W g, Cur W g s1 → Calls Try.prog 17 #[.pointer (some ⟨g, 0, none⟩), .int .i64 8] W fun e w' => ∃ A n c, e = .returned (.tuple #[.slice A n c, .bool f1]) ∧ n ≤ 8 ∧ Hid (n = l1.length ∧ w'.ownsRow W.heap.size 27 3 (.slice A n c) n (ptCells l1)) ∧ Hid (Cur w' g s2) ∧ Hid (Only W w' g)) := fun W g h => HTa.out 8 W s1 g s2 l1 f1 (by omega) hy h
  have HT2 : Hid (∀ W g, Cur W g s2 → Calls Try.prog 17 #[.pointer (some ⟨g, 0, none⟩), .int .i64 1] W fun e w' => ∃ A n c, e = .returned (.tuple #[.slice A n c, .bool f2]) ∧ n ≤ 8 ∧ Hid (n = l2.length ∧ w'.ownsRow W.heap.size 27 3 (.slice A n c) n (ptCells l2)) ∧ Hid (Cur w' g s3) ∧ Hid (Only W w' g)) := fun W g h => HTa.out 1 W s2 g s3 l2 f2 (by omega) hz h
  obtain ⟨ck, hck⟩ : ∃ x, x = chkL (l1 ++ l2) := ⟨_, rfl⟩
  have HCk : Hid (∀ W A k c, (k = (l1 ++ l2).length ∧ k ≤ c ∧ k ≤ 1001) → PtL W W.heap.size A (l1 ++ l2) → Calls Try.prog 18 #[.slice A k c] W fun e w' => e = .returned (.int .i64 ck) ∧ Below W.heap.size W w') := fun W A k c hk hp => by
    rw [hck]
    exact check_any (l1 ++ l2) k A c W hk.1 hk.2.2 hk.2.1 hp
  obtain ⟨my, hmy⟩ : ∃ x, x = decide (ck = 0) := ⟨_, rfl⟩
  rw [← hck, ← hmy] at hG
  have hc1 : decide (ck = 0) = my := hmy.symm
  have hc2 : (ck == 0) = my := by
    rw [hmy]
    by_cases h : ck = 0
    · rw [decide_eq_true h, beq_iff_eq]; exact h
    · rw [decide_eq_false h, beq_eq_false_iff_ne]; exact h
  have HB : Hid (Below w.heap.size w (w.alloc (.cells #[.slice none 0 0, .int .i64 0, .int .i64 0, .int .i64 0] 29))) := (Below.refl _ _).alloc (Nat.le_refl _) _
  have HC := Lib.hid (fun W hb => res_man w W hb)
  have nb := fun w' => Try.manZero w'
  have a29 := fun w' => Try.manAgg w'
  have s29 := fun w' => Try.manSize w'
  have a27 := fun w' => Try.partAgg w'
  have s27 := fun w' => Try.partSize w'
  have nf := fun w' => Try.notFalse w'
  have nt := fun w' => Try.notTrue w'
  have Hy := Lib.hid hy
  have Hz := Lib.hid hz
  have HGp := Lib.hid hG
  have HbT := Lib.hid hbg
  clear hn hr hc hcm hl ho hR hm hm1 hx hy hz e htl hbg hG hck hmy
  go_enter Try.func6, Try.ntmps6
  go_upto_region 9 with (first
    | (go_at_call 14; (with_reducible refine (HO.out _ HB.out).mono ?_); rintro e w1 ⟨A1, c1, rfl, h1, hw1⟩; have K1 := Lib.hid (HC.out _ hw1))
    | (go_at_call 15; (with_reducible refine (HF.out _ _ _ h1.out).mono ?_); rintro e w2 ⟨g, rfl, hg, hcu2, hw2⟩; have K2 := Lib.hid (Blk.below K1.out hw2 K1.out.lt))
    | (go_at_call 16; (with_reducible refine (HTx.out _ _ hcu2.out).mono ?_); rintro e w3 ⟨A3, c3, rfl, h3, hcu3, ho3⟩; have sx := HSt.out _ _ c3 h3.out)
    | (go_at_call 17; (with_reducible refine (HT1.out _ _ hcu3.out).mono ?_); rintro e w4 ⟨A4, n4, c4, rfl, hn4, h4, hcu4, ho4⟩)
    | (go_at_call 17; (with_reducible refine (HT2.out _ _ hcu4.out).mono ?_); rintro e w5 ⟨A5, n5, c5, rfl, hn5, h5, hcu5, ho5⟩; have G5 := Lib.hid (got_at (chainM (chainM HB.out hw1) hw2) K2.out (Nat.lt_of_lt_of_le K1.out.lt hg.out) hcu3.out ho3.out ho4.out ho5.out h4.out h5.out hcu5.out); have hcc := Lib.hid (G5.out.concat hn4 hn5))
    | (go_at_call 19; (with_reducible refine hcc.out.mono ?_); rintro e w6 ⟨A6, c6, n6, rfl, h6, hw6⟩)
    | (go_at_call 18; (with_reducible refine (HCk.out _ _ _ _ h6.out.1 h6.out.2).mono ?_); rintro e w7 ⟨rfl, hw7⟩; have G7 := Lib.hid (G5.out.up (chainM hw6 hw7)); have hbd := Lib.hid (bad_any g s3 w7 G7.out.cur); have hlf := Lib.hid (left_any g s3 w7 G7.out.cur)))
  obtain ⟨p0, p1, p2, p3⟩ := blk4 G7.out.k
  have pf := G7.out.k.frozen
  have pl := G7.out.k.lt
  cases bg
  · rw [if_neg (by simp)] at HGp
    go_wp2_with (first
      | (go_at_call 20; (with_reducible refine hbd.out.mono ?_); rintro e w8 ⟨rfl, rfl⟩)
      | (go_at_call 21; (with_reducible refine hlf.out.mono ?_); rintro e w8 ⟨rfl, rfl⟩))
    obtain ⟨E, hE⟩ : ∃ E, E = ((((w7.setCell ⟨w.heap.size, 0, none⟩ (.slice none 0 0)).setCell ⟨w.heap.size, 1, none⟩ (.int .i64 0)).setCell ⟨w.heap.size, 2, none⟩ (.int .i64 0)).setCell ⟨w.heap.size, 3, none⟩ (.int .i64 0)) := ⟨_, rfl⟩
    obtain ⟨⟨r0, r1, r2, r3⟩, hbE, hm⟩ := man_end G7.out.below G7.out.k (Nat.le_refl _) hE
    rw [← hE]
    refine bodyPost_ret (v := .tuple #[.agg #[.slice none 0 0, .int .i64 0, .int .i64 0, .int .i64 0], .int .i64 5]) (by simp [results, Try.results6, go_sem, r0, r1, r2, r3]) rfl ?_
    rw [HGp.out]
    exact ⟨none, 0, rfl, mfAt_zero E, hbE, fun _ e => nomatch e⟩
  cases f1
  · rw [if_neg (by simp)] at HGp
    go_wp2_with (first
      | (go_at_call 20; (with_reducible refine hbd.out.mono ?_); rintro e w8 ⟨rfl, rfl⟩)
      | (go_at_call 21; (with_reducible refine hlf.out.mono ?_); rintro e w8 ⟨rfl, rfl⟩))
    obtain ⟨E, hE⟩ : ∃ E, E = ((((w7.setCell ⟨w.heap.size, 0, none⟩ (.slice none 0 0)).setCell ⟨w.heap.size, 1, none⟩ (.int .i64 0)).setCell ⟨w.heap.size, 2, none⟩ (.int .i64 0)).setCell ⟨w.heap.size, 3, none⟩ (.int .i64 0)) := ⟨_, rfl⟩
    obtain ⟨⟨r0, r1, r2, r3⟩, hbE, hm⟩ := man_end G7.out.below G7.out.k (Nat.le_refl _) hE
    rw [← hE]
    refine bodyPost_ret (v := .tuple #[.agg #[.slice none 0 0, .int .i64 0, .int .i64 0, .int .i64 0], .int .i64 5]) (by simp [results, Try.results6, go_sem, r0, r1, r2, r3]) rfl ?_
    rw [HGp.out]
    exact ⟨none, 0, rfl, mfAt_zero E, hbE, fun _ e => nomatch e⟩
  cases f2
  · rw [if_neg (by simp)] at HGp
    go_wp2_with (first
      | (go_at_call 20; (with_reducible refine hbd.out.mono ?_); rintro e w8 ⟨rfl, rfl⟩)
      | (go_at_call 21; (with_reducible refine hlf.out.mono ?_); rintro e w8 ⟨rfl, rfl⟩))
    obtain ⟨E, hE⟩ : ∃ E, E = ((((w7.setCell ⟨w.heap.size, 0, none⟩ (.slice none 0 0)).setCell ⟨w.heap.size, 1, none⟩ (.int .i64 0)).setCell ⟨w.heap.size, 2, none⟩ (.int .i64 0)).setCell ⟨w.heap.size, 3, none⟩ (.int .i64 0)) := ⟨_, rfl⟩
    obtain ⟨⟨r0, r1, r2, r3⟩, hbE, hm⟩ := man_end G7.out.below G7.out.k (Nat.le_refl _) hE
    rw [← hE]
    refine bodyPost_ret (v := .tuple #[.agg #[.slice none 0 0, .int .i64 0, .int .i64 0, .int .i64 0], .int .i64 5]) (by simp [results, Try.results6, go_sem, r0, r1, r2, r3]) rfl ?_
    rw [HGp.out]
    exact ⟨none, 0, rfl, mfAt_zero E, hbE, fun _ e => nomatch e⟩
  cases my
  · rw [if_neg (by simp)] at HGp
    go_wp2_with (first
      | (go_at_call 20; (with_reducible refine hbd.out.mono ?_); rintro e w8 ⟨rfl, rfl⟩)
      | (go_at_call 21; (with_reducible refine hlf.out.mono ?_); rintro e w8 ⟨rfl, rfl⟩))
    obtain ⟨E, hE⟩ : ∃ E, E = ((((w7.setCell ⟨w.heap.size, 0, none⟩ (.slice none 0 0)).setCell ⟨w.heap.size, 1, none⟩ (.int .i64 0)).setCell ⟨w.heap.size, 2, none⟩ (.int .i64 0)).setCell ⟨w.heap.size, 3, none⟩ (.int .i64 0)) := ⟨_, rfl⟩
    obtain ⟨⟨r0, r1, r2, r3⟩, hbE, hm⟩ := man_end G7.out.below G7.out.k (Nat.le_refl _) hE
    rw [← hE]
    refine bodyPost_ret (v := .tuple #[.agg #[.slice none 0 0, .int .i64 0, .int .i64 0, .int .i64 0], .int .i64 5]) (by simp [results, Try.results6, go_sem, r0, r1, r2, r3]) rfl ?_
    rw [HGp.out]
    exact ⟨none, 0, rfl, mfAt_zero E, hbE, fun _ e => nomatch e⟩
  rcases s3 with _ | R
  · rw [if_neg (by simp)] at HGp
    have hbd2 : Hid (Calls Try.prog 20 #[.pointer (some ⟨g, 0, none⟩)] w7 fun e w' => e = .returned (.bool true) ∧ w7 = w') := hbd.out
    go_wp2_with (first
      | (go_at_call 20; (with_reducible refine hbd2.out.mono ?_); rintro e w8 ⟨rfl, rfl⟩)
      | (go_at_call 21; (with_reducible refine hlf.out.mono ?_); rintro e w8 ⟨rfl, rfl⟩))
    obtain ⟨E, hE⟩ : ∃ E, E = ((((w7.setCell ⟨w.heap.size, 0, none⟩ (.slice none 0 0)).setCell ⟨w.heap.size, 1, none⟩ (.int .i64 0)).setCell ⟨w.heap.size, 2, none⟩ (.int .i64 0)).setCell ⟨w.heap.size, 3, none⟩ (.int .i64 0)) := ⟨_, rfl⟩
    obtain ⟨⟨r0, r1, r2, r3⟩, hbE, hm⟩ := man_end G7.out.below G7.out.k (Nat.le_refl _) hE
    rw [← hE]
    refine bodyPost_ret (v := .tuple #[.agg #[.slice none 0 0, .int .i64 0, .int .i64 0, .int .i64 0], .int .i64 5]) (by simp [results, Try.results6, go_sem, r0, r1, r2, r3]) rfl ?_
    rw [HGp.out]
    exact ⟨none, 0, rfl, mfAt_zero E, hbE, fun _ e => nomatch e⟩
  have hbd2 : Hid (Calls Try.prog 20 #[.pointer (some ⟨g, 0, none⟩)] w7 fun e w' => e = .returned (.bool false) ∧ w7 = w') := hbd.out
  obtain ⟨rl, hrl⟩ : ∃ x, x = R.length := ⟨_, rfl⟩
  have hlf2 : Hid (Calls Try.prog 21 #[.pointer (some ⟨g, 0, none⟩)] w7 fun e w' => e = .returned (.int .i64 (rl : Int)) ∧ w7 = w') := by rw [hrl]; exact hlf.out
  by_cases h0 : rl = 0
  rotate_left
  · rw [if_neg (by simp [leftN, ← hrl, h0])] at HGp
    have v1 : ((rl : Int) != 0) = true := by rw [bne_iff_ne]; omega
    have v2 : ((rl : Int) == 0) = false := by rw [beq_eq_false_iff_ne]; omega
    have v3 : (rl == 0) = false := by rw [beq_eq_false_iff_ne]; exact h0
    have v4 : (rl != 0) = true := by rw [bne_iff_ne]; exact h0
    clear h0 hrl
    go_wp2_with (first
      | (go_at_call 20; (with_reducible refine hbd2.out.mono ?_); rintro e w8 ⟨rfl, rfl⟩)
      | (go_at_call 21; (with_reducible refine hlf2.out.mono ?_); rintro e w8 ⟨rfl, rfl⟩))
    obtain ⟨E, hE⟩ : ∃ E, E = ((((w7.setCell ⟨w.heap.size, 0, none⟩ (.slice none 0 0)).setCell ⟨w.heap.size, 1, none⟩ (.int .i64 0)).setCell ⟨w.heap.size, 2, none⟩ (.int .i64 0)).setCell ⟨w.heap.size, 3, none⟩ (.int .i64 0)) := ⟨_, rfl⟩
    obtain ⟨⟨r0, r1, r2, r3⟩, hbE, hm⟩ := man_end G7.out.below G7.out.k (Nat.le_refl _) hE
    rw [← hE]
    refine bodyPost_ret (v := .tuple #[.agg #[.slice none 0 0, .int .i64 0, .int .i64 0, .int .i64 0], .int .i64 5]) (by simp [results, Try.results6, go_sem, r0, r1, r2, r3]) rfl ?_
    rw [HGp.out]
    exact ⟨none, 0, rfl, mfAt_zero E, hbE, fun _ e => nomatch e⟩
  rw [if_pos (by simp [leftN, ← hrl, h0])] at HGp
  subst h0
  clear hrl
  rcases l2 with _ | ⟨⟨pa, pb, pc⟩, lt⟩
  · obtain rfl : n5 = 0 := G7.out.r2.1
    go_wp2_with (first
      | (go_at_call 20; (with_reducible refine hbd2.out.mono ?_); rintro e w8 ⟨rfl, rfl⟩)
      | (go_at_call 21; (with_reducible refine hlf2.out.mono ?_); rintro e w8 ⟨rfl, rfl⟩))
    obtain ⟨E, hE⟩ : ∃ E, E = ((((w7.setCell ⟨w.heap.size, 0, none⟩ (.slice A4 n4 c4)).setCell ⟨w.heap.size, 1, none⟩ (.int .i64 0)).setCell ⟨w.heap.size, 2, none⟩ (.int .i64 0)).setCell ⟨w.heap.size, 3, none⟩ (.int .i64 0)) := ⟨_, rfl⟩
    obtain ⟨⟨r0, r1, r2, r3⟩, hbE, hm⟩ := man_end G7.out.below G7.out.k (Nat.le_refl _) hE
    have hmf : MfAt E ⟨l1, Pt.z⟩ A4 c4 := hm _ _ _ (G7.out.mf hn4 Pt.z) G7.out.away
    rw [← hE]
    obtain ⟨E2, hE2⟩ : ∃ E2, E2 = E.alloc (.cells #[.slice A4 n4 c4, .int .i64 0, .int .i64 0, .int .i64 0] 29) := ⟨_, rfl⟩
    have hb2 : Below E.heap.size E E2 := by rw [hE2]; exact (Below.refl _ _).alloc (Nat.le_refl _) _
    rw [← hE2]
    have hlt := World.block_lt_of_cell? E _ r0
    have r0 := (hb2.cell (p := ⟨w.heap.size, 0, none⟩) hlt).trans r0
    have r1 := (hb2.cell (p := ⟨w.heap.size, 1, none⟩) hlt).trans r1
    have r2 := (hb2.cell (p := ⟨w.heap.size, 2, none⟩) hlt).trans r2
    have r3 := (hb2.cell (p := ⟨w.heap.size, 3, none⟩) hlt).trans r3
    refine bodyPost_ret (v := .tuple #[.agg #[.slice A4 n4 c4, .int .i64 0, .int .i64 0, .int .i64 0], .int .i64 0]) (by simp [results, Try.results6, go_sem, r0, r1, r2, r3]) rfl ?_
    rw [HGp.out]
    exact ⟨A4, c4, by rw [G7.out.r1.1]; rfl, hmf.up hb2, chainM hbE hb2, fun ad e => Nat.le_trans (Nat.le_of_lt G7.out.ord.1) (G7.out.r1.base_le ad e)⟩
  · have hn0 : n5 = lt.length + 1 := G7.out.r2.1
    obtain ⟨b, off, hA5, hbl, hcs⟩ := G7.out.r2.ptl (by simp)
    obtain ⟨k0, k1, k2⟩ := hcs 0 (by simp)
    simp only [List.getElem_cons_zero, Nat.zero_mul, Nat.add_zero] at k0 k1 k2
    have v1 : decide ((n5 : Int) > 0) = true := decide_eq_true (by omega)
    have v2 : decide ((0 : Int) < (n5 : Int)) = true := decide_eq_true (by omega)
    have v3 : decide (0 < n5) = true := decide_eq_true (by omega)
    have v4 : 0 < n5 := by omega
    subst hA5
    clear hn0 hcs
    go_wp2_with (first
      | (go_at_call 20; (with_reducible refine hbd2.out.mono ?_); rintro e w8 ⟨rfl, rfl⟩)
      | (go_at_call 21; (with_reducible refine hlf2.out.mono ?_); rintro e w8 ⟨rfl, rfl⟩))
    obtain ⟨E, hE⟩ : ∃ E, E = ((((w7.setCell ⟨w.heap.size, 0, none⟩ (.slice A4 n4 c4)).setCell ⟨w.heap.size, 1, none⟩ (.int .i64 pa)).setCell ⟨w.heap.size, 2, none⟩ (.int .i64 pb)).setCell ⟨w.heap.size, 3, none⟩ (.int .i64 pc)) := ⟨_, rfl⟩
    obtain ⟨⟨r0, r1, r2, r3⟩, hbE, hm⟩ := man_end G7.out.below G7.out.k (Nat.le_refl _) hE
    have hmf : MfAt E ⟨l1, ⟨pa, pb, pc⟩⟩ A4 c4 := hm _ _ _ (G7.out.mf hn4 ⟨pa, pb, pc⟩) G7.out.away
    rw [← hE]
    obtain ⟨E2, hE2⟩ : ∃ E2, E2 = E.alloc (.cells #[.slice A4 n4 c4, .int .i64 pa, .int .i64 pb, .int .i64 pc] 29) := ⟨_, rfl⟩
    have hb2 : Below E.heap.size E E2 := by rw [hE2]; exact (Below.refl _ _).alloc (Nat.le_refl _) _
    rw [← hE2]
    have hlt := World.block_lt_of_cell? E _ r0
    have r0 := (hb2.cell (p := ⟨w.heap.size, 0, none⟩) hlt).trans r0
    have r1 := (hb2.cell (p := ⟨w.heap.size, 1, none⟩) hlt).trans r1
    have r2 := (hb2.cell (p := ⟨w.heap.size, 2, none⟩) hlt).trans r2
    have r3 := (hb2.cell (p := ⟨w.heap.size, 3, none⟩) hlt).trans r3
    refine bodyPost_ret (v := .tuple #[.agg #[.slice A4 n4 c4, .int .i64 pa, .int .i64 pb, .int .i64 pc], .int .i64 0]) (by simp [results, Try.results6, go_sem, r0, r1, r2, r3]) rfl ?_
    rw [HGp.out]
    exact ⟨A4, c4, by rw [G7.out.r1.1]; rfl, hmf.up hb2, chainM hbE hb2, fun ad e => Nat.le_trans (Nat.le_of_lt G7.out.ord.1) (G7.out.r1.base_le ad e)⟩
theorem mget_new (b : List UInt8) (A : Option Addr) (c : Nat) (w : World) (hr : RB w w.heap.size A b) (hc : b.length ≤ c) (hcm : c ≤ 9223372036854775807) (hl : b.length ≤ 1000) : Calls Try.prog 6 #[.slice A b.length c] w (GivesMfN (Mf.get b) w) := by
  cases ho : openL b with
  | none => exact mget_sum b _ A c w rfl hr hc hcm hl ho
  | some M => exact mget_in b M _ A c w rfl hr hc hcm hl ho
end Go.Proofs.Ytnmcohdlogepdaa
