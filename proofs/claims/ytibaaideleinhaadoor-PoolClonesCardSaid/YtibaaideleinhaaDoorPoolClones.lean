/- PoolClones returns true for every two lists of deeds, and leaves memory that was there as it was; the library table of math/bits lies as its text lays it (the card ties that); nothing else is assumed beyond the statement itself. -/
import Derived.Test.YtibaaideleinhaaDoorPoolDoes
import Derived.Test.YtibaaideleinhaaDoorBitsLaid
import Derived.Test.YtibaaideleinhaaDoorCards
import Derived.Test.YtibaaideleinhaaDoorTie
import Derived.SevenTiedAt
set_option linter.unusedVariables false
set_option linter.unusedSimpArgs false
namespace Go.Proofs.YtibaaideleinhaaDoor
open Go.ChangeShapes Go.WideShapes Go.ChangeAt Go.RowKit

theorem Tryd.pEqS2 (g : Nat) (w : World) : Sem.run Tryd.prog (binOp .eql 23 (.pointer (some ⟨g, 0, none⟩)) (.pointer none)) w = .ok (.bool false) w := by kernel_rfl
theorem Tryd.pEqN2 (w : World) : Sem.run Tryd.prog (binOp .eql 23 (.pointer none) (.pointer none)) w = .ok (.bool true) w := by kernel_rfl
theorem DpL.up {w w' : World} {A : Option Addr} {l : List Dp} (h : DpL w w.heap.size A l) (hb : Below w.heap.size w w') : DpL w' w'.heap.size A l := fun h0 => by
  obtain ⟨b, off, e, hlt, hc⟩ := h h0
  refine ⟨b, off, e, Nat.lt_of_lt_of_le hlt hb.size, fun i hi => ?_⟩
  obtain ⟨pA, pc, hV, k0, k1, k2⟩ := hc i hi
  exact ⟨pA, pc, hV.up hb, (hb.cell (p := ⟨b, off + i * 3, none⟩) hlt).trans k0, (hb.cell (p := ⟨b, off + i * 3 + 1, none⟩) hlt).trans k1, (hb.cell (p := ⟨b, off + i * 3 + 2, none⟩) hlt).trans k2⟩
theorem Bo.old {v W : World} {g : Nat} {F : Nat → Prop} {p q : Pl} {A : Option Addr} {c : Nat} (h : Bo v W g F p q A c) (h0 : 0 < q.tk.length) (ad : Addr) (e : A = some ad) : ad.block < W.heap.size := by
  obtain ⟨b, off, e2, hlt, _⟩ := h.rf.bs.at_ h0
  rw [e] at e2; injection e2 with e2; subst e2
  exact hlt
theorem Vx.below_of {v W : World} {g gx : Nat} {F : Nat → Prop} {p : Pl} {x0 x1 : Value} {A : Option Addr} {c : Nat} (h : Vx v W g F p gx x0 x1 A c) (h0 : 0 < p.tk.length) (ad : Addr) (e : A = some ad) : ad.block < W.heap.size := h.bo.old h0 ad e
theorem op_valued {P : Program} {ops : Array Oper} {Q : Exit → Act → World → Prop} {i : Nat} {oi : Oper} {K : Act → World → Prop} {a : Act} {w w' : World} (v : Value) (d : Nat) (hi : ops[i]? = some oi) (hd : oi.dst = some d) (hw : Region.wanted oi (yielded ops a.tmps) = true) (hy : (execOp a.eval oi).run P w = .ok (.value v) w') (h : K (a.put (some d) v) w') : wpOp P ops Q i K a w := op_value v hi hw hy (by rw [hd]) h
theorem Bo.var {v W : World} {g : Nat} {F : Nat → Prop} {p : Pl} {A : Option Addr} {c : Nat} {x0 x1 : Value} (h : Bo v W g F p p A c) : Vx v (W.alloc (.cells #[x0, x1] 29)) g F p W.heap.size x0 x1 A c :=
  ⟨h.more ((Below.refl _ _).alloc (Nat.le_refl _) _), ⟨Blk.new _ _ _, fun hf => Nat.lt_irrefl _ (h.pp.flt _ hf), fun h0 ad e => Nat.ne_of_lt (h.old h0 ad e)⟩, h.below.size⟩
set_option maxRecDepth 100000 in
set_option maxHeartbeats 8000000 in
theorem poolclones_any (l l2 : List Dp) (A0 A2 : Option Addr) (m m2 cA cA2 : Nat) (w : World) (hL : DpL w w.heap.size A0 l) (hm : m = l.length) (hL2 : DpL w w.heap.size A2 l2) (hm2 : m2 = l2.length) (hT : Tq w) :
    Calls Tryd.prog 5 #[.slice A0 m cA, .slice A2 m2 cA2] w fun e w' => e = .returned (.bool true) ∧ Below w.heap.size w w' := by
  obtain ⟨fw, hfw⟩ : ∃ x, x = fewP l := ⟨_, rfl⟩
  obtain ⟨fw2, hfw2⟩ : ∃ x, x = fewP l2 := ⟨_, rfl⟩
  have HFw : Hid (∀ W, Below w.heap.size w W → Calls Tryd.prog 8 #[.slice A0 m cA] W fun e w' => e = .returned (.bool fw) ∧ Below W.heap.size W w') := fun W hb => by rw [hfw]; exact fewP_any l A0 m cA hb hL hm
  have HFw2 : Hid (∀ W, Below w.heap.size w W → Calls Tryd.prog 8 #[.slice A2 m2 cA2] W fun e w' => e = .returned (.bool fw2) ∧ Below W.heap.size W w') := fun W hb => by rw [hfw2]; exact fewP_any l2 A2 m2 cA2 hb hL2 hm2
  have HT := Lib.hid hT
  clear hT
  have HAw : Hid (∀ W, Below w.heap.size w W → Calls Tryd.prog 9 #[] W fun e w' => e = .returned (.bool true) ∧ Below W.heap.size W w') := fun W hb => awake11_any W (HT.out.below hb)
  have n0 := fun w' => Tryd.pNotF w'
  have n1 := fun w' => Tryd.pNotT w'
  have p0 := fun g w' => Tryd.pEqS2 g w'
  have p1 := fun w' => Tryd.pEqN2 w'
  have a0 := fun w' => Tryd.poolAgg w'
  have s0 := fun w' => Tryd.poolSize w'
  obtain ⟨n, hn⟩ : ∃ n, n = (Pl.made 2 20).tk.length := ⟨_, rfl⟩
  obtain ⟨lo, hlo⟩ : ∃ n, n = (Pl.made 2 20).lo := ⟨_, rfl⟩
  have HO : Hid (∀ W, Below w.heap.size w W → Calls Tryd.prog 6 #[.int .i64 2, .int .i64 20] W fun e w' => ∃ g F, e = .returned (.tuple #[.pointer (some ⟨g, 0, none⟩), .int .i64 0]) ∧ Pa w w' g F (Pl.made 2 20)) := fun W hb => (pof_yes 2 20 W (by decide) (HT.out.below hb)).mono fun e w' hh => by
    obtain ⟨g, F, he, h1, h2, h3⟩ := hh
    exact ⟨g, F, he, h1, fun k hk => Nat.le_trans hb.size (h3 k hk), hb.trans (h2.mono hb.size)⟩
  have HR : Hid (∀ W g F, Pa w W g F (Pl.made 2 20) → Calls Tryd.prog 7 #[.int .i64 2, .int .i64 20] W fun e w' => ∃ A c, e = .returned (.tuple #[.agg #[.int .i64 lo, .slice A n c], .int .i64 0]) ∧ Bo w w' g F (Pl.made 2 20) (Pl.made 2 20) A c) := fun W g F h => (rpof_yes 2 20 W (by decide)).mono fun e w' hh => by
    obtain ⟨A, c, he, hp, ho, hb⟩ := hh
    unfold plV at he
    rw [← hn, ← hlo] at he
    have h2 := h.more hb
    exact ⟨A, c, he, h2.pp, hp, fun h0 ad e hf => by have := ho ad e; have := h.pp.flt _ hf; omega, h2.own, h2.below⟩
  rcases fw with _ | _
  · clear hL hm hfw hn hlo hL2 hm2 hfw2
    go_enter Tryd.func5, Tryd.ntmps5
    go_wp2_with (first
      | (go_at_call 6; have hx := HO.out w (Below.refl _ _); (with_reducible refine hx.mono ?_); clear hx; rintro e w1 ⟨g, F, rfl, s1⟩)
      | (go_at_call 7; have hx := HR.out w1 g F s1; (with_reducible refine hx.mono ?_); clear hx; rintro e w2 ⟨A, c, rfl, s2⟩; have b3 := s2.below.alloc s2.below.size (.cells #[.int .i64 lo, .slice A n c] 29))
      | (go_at_call 8; (with_reducible refine (HFw.out _ b3).mono ?_); rintro e w4 ⟨rfl, b4⟩; have b5 := b3.trans (b4.mono b3.size))
      | (go_at_call 9; (with_reducible refine (HAw.out _ b5).mono ?_); rintro e wz ⟨rfl, bz⟩))
    go_ret
    exact ⟨rfl, b5.trans (bz.mono b5.size)⟩
  · rcases fw2 with _ | _
    · clear hL hm hfw hn hlo hL2 hm2 hfw2
      go_enter Tryd.func5, Tryd.ntmps5
      go_wp2_with (first
        | (go_at_call 6; have hx := HO.out w (Below.refl _ _); (with_reducible refine hx.mono ?_); clear hx; rintro e w1 ⟨g, F, rfl, s1⟩)
        | (go_at_call 7; have hx := HR.out w1 g F s1; (with_reducible refine hx.mono ?_); clear hx; rintro e w2 ⟨A, c, rfl, s2⟩; have b3 := s2.below.alloc s2.below.size (.cells #[.int .i64 lo, .slice A n c] 29))
        | (go_at_call 8; (with_reducible refine (HFw.out _ b3).mono ?_); rintro e w4 ⟨rfl, b4⟩; have b5 := b3.trans (b4.mono b3.size))
        | (go_at_call 8; (with_reducible refine (HFw2.out _ b5).mono ?_); rintro e w6 ⟨rfl, b6⟩; have b7 := b5.trans (b6.mono b5.size))
        | (go_at_call 9; (with_reducible refine (HAw.out _ b7).mono ?_); rintro e wz ⟨rfl, bz⟩))
      go_ret
      exact ⟨rfl, b7.trans (bz.mono b7.size)⟩
    · obtain ⟨m30, mall⟩ := fewP_all hfw.symm
      obtain ⟨m30', mall'⟩ := fewP_all hfw2.symm
      have hm30 : m ≤ 30 := by omega
      have hm302 : m2 ≤ 30 := by omega
      have HDL : Hid (DpL w w.heap.size A0 l ∧ m = l.length ∧ ∀ i (hi : i < l.length), l[i].l.length ≤ 30) := ⟨hL, hm, mall⟩
      have HDL2 : Hid (DpL w w.heap.size A2 l2 ∧ m2 = l2.length ∧ ∀ i (hi : i < l2.length), l2[i].l.length ≤ 30) := ⟨hL2, hm2, mall'⟩
      have hsm : (Pl.made 2 20).tk.length = n ∧ (Pl.made 2 20).lo = lo := ⟨hn.symm, hlo.symm⟩
      have Hsm := Lib.hid hsm
      have HAl : Hid (∀ W w0 g F p gx x0 x1 A c, Vx w0 W g F p gx x0 x1 A c → p.tk.length = n ∧ p.lo = lo → Calls Tryd.prog 11 #[.pointer (some ⟨g, 0, none⟩), .agg #[.int .i64 lo, .slice A n c]] W fun e w' => e = .returned (.bool true) ∧ Below W.heap.size W w') := fun W w0 g F p gx x0 x1 A c h hp => by
        have := alike11_any h.bo
        unfold plV at this
        rwa [hp.1, hp.2] at this
      clear hL hm hfw m30 mall hn hlo hsm hL2 hm2 hfw2 m30' mall'
      go_enter Tryd.func5, Tryd.ntmps5
      go_wp2_with (first
        | (go_at_call 6; have hx := HO.out w (Below.refl _ _); (with_reducible refine hx.mono ?_); clear hx; rintro e w1 ⟨g, F, rfl, s1⟩)
        | (go_at_call 7; have hx := HR.out w1 g F s1; (with_reducible refine hx.mono ?_); clear hx; rintro e w2 ⟨A, c, rfl, s2⟩; have b3 := s2.below.alloc s2.below.size (.cells #[.int .i64 lo, .slice A n c] 29))
        | (go_at_call 8; (with_reducible refine (HFw.out _ b3).mono ?_); rintro e w4 ⟨rfl, b4⟩; have b5 := b3.trans (b4.mono b3.size))
        | (go_at_call 8; (with_reducible refine (HFw2.out _ b5).mono ?_); rintro e w6 ⟨rfl, b6⟩))
      have hV0 : Vx w (w2.alloc (.cells #[.int .i64 lo, .slice A n c] 29)) g F (Pl.made 2 20) w2.heap.size (.int .i64 lo) (.slice A n c) A c := ⟨s2.more ((Below.refl _ _).alloc (Nat.le_refl _) _), ⟨Blk.new _ _ _, fun hf => Nat.lt_irrefl _ (s2.pp.flt _ hf), fun h0 ad e => by
        obtain ⟨b, off, e2, hlt, _⟩ := s2.rf.bs.at_ h0
        rw [e] at e2; injection e2 with e2; subst e2
        show b ≠ _
        omega⟩, s2.below.size⟩
      have hV6 := (hV0.more b4).more b6
      go_loopw [9] (fun x wr => ∃ i : Nat, i ≤ m ∧ x = .int .i64 (i : Int) ∧ ∃ (p : Pl) (F : Nat → Prop) (A : Option Addr) (c : Nat), Hid ((p.tk.length = n ∧ p.lo = lo) ∧ Vx w wr g F p w2.heap.size (.int .i64 lo) (.slice A n c) A c)) (fun x _ => m - (intOf x).toNat)
      case atStart => exact ⟨0, by omega, rfl, _, F, A, c, Hsm.out, hV6⟩
      case round =>
        clear hV6 hV0 b4 b6 b5 b3 s2 s1 HO HR HFw HFw2 Hsm
        obtain ⟨i, hi, rfl, p, F, A, c, HV⟩ := hrel
        obtain ⟨gx, hgx⟩ : ∃ g, g = w2.heap.size := ⟨_, rfl⟩
        rw [← hgx] at HV ⊢
        clear hgx
        by_cases hlt : i < m
        · have d0 : decide ((i : Int) < (m : Int)) = true := decide_eq_true (by omega)
          have d1 : decide (i < m) = true := decide_eq_true hlt
          have y7 : IntKind.i64.wrap ((i : Int) + 1) = (i : Int) + 1 := IntWalk.i64_in _ (by omega)
          obtain ⟨b, off, rfl, hbb, hcc⟩ := HDL.out.1 (by have := HDL.out.2.1; omega)
          have hil : i < l.length := by have := HDL.out.2.1; omega
          obtain ⟨dA, dc, hV, k0, k1, k2⟩ := hcc i hil
          obtain ⟨kd, hkd⟩ : ∃ x, x = l[i].kind := ⟨_, rfl⟩
          obtain ⟨nn, hnn⟩ : ∃ x, x = l[i].n := ⟨_, rfl⟩
          obtain ⟨dl, hdl⟩ : ∃ x, x = l[i].l.length := ⟨_, rfl⟩
          have hl30 := HDL.out.2.2 i hil
          obtain ⟨p1, hp1⟩ : ∃ x, x = stepP p l[i].kind l[i].n l[i].l := ⟨_, rfl⟩
          have hp1l : p1.tk.length = n ∧ p1.lo = lo := by
            have h1 := stepP_load p l[i].kind l[i].n l[i].l
            have := HV.out.1
            rw [hp1, h1.1, h1.2]; exact this
          have HD2 : Hid (∀ (W : World) (gy : Nat) (z0 z1 : Value), Vx w W g F p gx (.int .i64 lo) (.slice A n c) A c → Vy W F p A gy z0 z1 → Calls Tryd.prog 10 #[.pointer (some ⟨g, 0, none⟩), .agg #[.int .i64 lo, .slice A n c], .agg #[.int .i64 kd, .int .i64 nn, .slice dA dl dc]] W fun e w' => ∃ F' A1 d1, e = .returned (.tuple #[.agg #[.int .i64 lo, .slice A1 n d1], .bool true]) ∧ Vx w w' g F' p1 gx (.int .i64 lo) (.slice A n c) A1 d1 ∧ Vy w' F' p1 A1 gy z0 z1) := fun W gy z0 z1 h hY => by
            have h1 := do11_any h.bo l[i].kind l[i].n l[i].l dA dl dc hV.ri hdl (by omega) hV.lin hV.nin
            unfold plV at h1
            rw [HV.out.1.1, HV.out.1.2, ← hp1, ← hkd, ← hnn] at h1
            refine h1.mono fun e w' hh => ?_
            obtain ⟨F', A1, d1, he, hB, ht, ho⟩ := hh
            rw [hp1l.1, hp1l.2] at he
            have carry : ∀ (gz : Nat) (q0 q1 : Value), Vy W F p A gz q0 q1 → Vy w' F' p1 A1 gz q0 q1 := fun gz q0 q1 hz => ⟨hz.b.turns ht hz.n, not_foot11 ht hz.b.lt hz.n, fun h0 ad e => by
              rcases ho ad e with h2 | h2
              · exact hz.a (by have := HV.out.1.1; have := hp1l.1; omega) ad h2
              · have := hz.b.lt; omega⟩
            exact ⟨F', A1, d1, he, ⟨hB, carry _ _ _ h.x, h.hx⟩, carry _ _ _ hY⟩
          have HD : Hid (∀ (W : World), Vx w W g F p gx (.int .i64 lo) (.slice A n c) A c → Calls Tryd.prog 10 #[.pointer (some ⟨g, 0, none⟩), .agg #[.int .i64 lo, .slice A n c], .agg #[.int .i64 kd, .int .i64 nn, .slice dA dl dc]] W fun e w' => ∃ F' A1 d1, e = .returned (.tuple #[.agg #[.int .i64 lo, .slice A1 n d1], .bool true]) ∧ Vx w w' g F' p1 gx (.int .i64 lo) (.slice A n c) A1 d1) := fun W h => (HD2.out W gx _ _ h h.x).mono fun e w' hh => by
            obtain ⟨F', A1, d1, he, h1, _⟩ := hh
            exact ⟨F', A1, d1, he, h1⟩
          have HS : Hid (∀ (W : World) {F' : Nat → Prop} {p' : Pl} {A1 : Option Addr} {d1 : Nat}, Vx w W g F' p' gx (.int .i64 lo) (.slice A n c) A1 d1 → W.rangeAt gx 0 [.int .i64 lo, .slice A n c] ∧ W.rangeAt b (off + i * 3) [.int .i64 kd, .int .i64 nn, .slice dA dl dc]) := fun W F' p' A1 d1 h => ⟨range_blk h.x.b, by
            have hb := h.bo.below
            rw [hkd, hnn, hdl]
            exact range_three ((hb.cell (p := ⟨b, off + i * 3, none⟩) hbb).trans k0) ((hb.cell (p := ⟨b, off + i * 3 + 1, none⟩) hbb).trans k1) ((hb.cell (p := ⟨b, off + i * 3 + 2, none⟩) hbb).trans k2)⟩
          have Hp1 := Lib.hid hp1l
          clear hcc hV k0 k1 k2 hkd hnn hdl hp1 hp1l hl30 hbb
          have hX := HV.out.2
          have hS0 := HS.out _ hX
          have c0 : wr.cell? ⟨gx, 0, none⟩ = some (.int .i64 lo) := hX.x.b.cell 0
          have c1 : wr.cell? ⟨gx, 1, none⟩ = some (.slice A n c) := hX.x.b.cell 1
          have t0 : wr.cell? ⟨b, off + i * 3, none⟩ = some (.int .i64 kd) := hS0.2 0 _ rfl
          have t1 : wr.cell? ⟨b, off + i * 3 + 1, none⟩ = some (.int .i64 nn) := hS0.2 1 _ rfl
          have t2 : wr.cell? ⟨b, off + i * 3 + 2, none⟩ = some (.slice dA dl dc) := hS0.2 2 _ rfl
          have a1 := fun w' => Tryd.deedAgg w'
          have s1 := fun w' => Tryd.deedSize w'
          have HX := Lib.hid hX
          clear hX hS0
          go_upto_region 8 with (fail)
          go_region_with (go_at_call 10; have hx := HD.out _ (HX.out.more (Below.refl _ _).drew); (with_reducible refine hx.mono ?_); clear hx; rintro e w5 ⟨F5, A1, d1, rfl, hV5⟩; have e0 : w5.cell? ⟨gx, 0, none⟩ = some (.int .i64 lo) := hV5.x.b.cell 0; have e1 : w5.cell? ⟨gx, 1, none⟩ = some (.slice A n c) := hV5.x.b.cell 1; have f0 := hV5.x.b.frozen 0; have f1 := hV5.x.b.frozen 1; have HP5 := Lib.hid (hV5.put (u := .int .i64 lo) (v := .slice A1 n d1)); clear hV5)
          all_goals
            go_wp2_with (fail)
            go_roundw
            case rel => exact ⟨i + 1, by omega, by go_num, p1, F5, A1, d1, Hp1.out, HP5.out⟩
            case measure => simp [intOf]; omega
        · have d0 : decide ((i : Int) < (m : Int)) = false := decide_eq_false (by omega)
          have d1 : decide (i < m) = false := decide_eq_false hlt
          obtain ⟨v1, hv1⟩ : ∃ v1 : World, v1 = wr := ⟨_, rfl⟩
          subst hv1
          have HX1 : Hid (Vx w v1 g F p gx (.int .i64 lo) (.slice A n c) A c) := HV.out.2
          have Hpo : Hid (p.tk.length = n ∧ p.lo = lo) := HV.out.1
          have HDL2' : Hid (DpL v1 v1.heap.size A2 l2 ∧ m2 = l2.length ∧ ∀ i (hi : i < l2.length), l2[i].l.length ≤ 30) := ⟨HDL2.out.1.up HX1.out.bo.below, HDL2.out.2⟩
          have HC : Hid (∀ W, Below v1.heap.size v1 W → Calls Tryd.prog 16 #[.pointer (some ⟨g, 0, none⟩)] W fun e w' => ∃ g2 F2, e = .returned (.pointer (some ⟨g2, 0, none⟩)) ∧ Bo v1 w' g2 F2 p p A c ∧ Below W.heap.size W w' ∧ ∀ k, F2 k → W.heap.size ≤ k) := fun W hb => (pclone_any (HX1.out.more hb).bo.pp).mono fun e w' hh => by
            obtain ⟨g2, F2, he, hpp, hbl, hnew⟩ := hh
            exact ⟨g2, F2, he, ⟨hpp, (HX1.out.more hb).bo.rf.up hbl, fun h0 ad e hf => by
              have h2 := HX1.out.below_of h0 ad e
              have h3 := hnew _ hf
              have := hb.size
              omega, fun k hk => Nat.le_trans hb.size (hnew k hk), hb.trans (hbl.mono hb.size)⟩, hbl, hnew⟩
          clear HV HDL2 HDL
          go_upto_region 9 with (fail)
          go_cut [10, 11] from 55 to 57 (fun s10 s11 wx => ∃ g2 gv, s10 = .pointer (some ⟨g2, 0, none⟩) ∧ s11 = .pointer (some ⟨gv, 0, none⟩) ∧ ∃ F2, Hid (Vx v1 wx g2 F2 p gv (.int .i64 lo) (.slice A n c) A c))
          case first =>
            have hb0 : Below v1.heap.size v1 v1.drew := (Below.refl _ _).drew
            have HR : Hid (∀ W, Below v1.heap.size v1 W → W.rangeAt gx 0 [.int .i64 lo, .slice A n c]) := fun W hb => range_blk (HX1.out.more hb).x.b
            have hS0 := HR.out _ hb0
            refine region_T (fun V => V.rangeAt gx 0 [.int .i64 lo, .slice A n c]) (fun k => decide (6 ≤ k)) (by kernel_rfl) ?_
            refine any_asT rfl (listed' := #[false, false, false, false, false, false]) (by kernel_rfl) ?_
            refine take_d (i := 0) (.pointer (some ⟨g, 0, none⟩)) 55 rfl (by kernel_rfl) (by kernel_rfl) (by kernel_rfl) (by kernel_rfl) rfl (by kernel_rfl) (by kernel_rfl) (fun V hV => by kernel_rfl) hS0 (fun _ _ _ h => h) ?_
            simp only [Act.put, List.setIfInBounds_toArray, List.set_cons_zero, List.set_cons_succ]
            refine take_d (i := 2) (.agg #[.int .i64 lo, .slice A n c]) 57 rfl (by kernel_rfl) (by kernel_rfl) (by kernel_rfl) (by kernel_rfl) rfl (by kernel_rfl) (by kernel_rfl) (fun V hV => load_run 29 (.tmp 7) gx 0 [.int .i64 lo, .slice A n c] _ (by kernel_rfl) (by kernel_rfl) hV Tryd.underlying29 rfl (by kernel_rfl) _ rfl) hS0 (fun _ _ _ h => h) ?_
            simp only [Act.put, List.setIfInBounds_toArray, List.set_cons_zero, List.set_cons_succ]
            refine any_twoT (i := 1) (j := 3) (by kernel_rfl) ?_ ?_
            · refine op_enter 16 #[.pointer (some ⟨g, 0, none⟩)] (some 56) rfl (by kernel_rfl) (by kernel_rfl) (by kernel_rfl) ((HC.out _ hb0).mono ?_)
              rintro e w5 ⟨g2, F2, rfl, hB, hb5, hnw⟩
              have hS1 := HR.out _ hB.below
              refine ⟨_, rfl, hS1, ?_⟩
              simp only [Act.put, List.setIfInBounds_toArray, List.set_cons_zero, List.set_cons_succ]
              have hBa := hB.more ((Below.refl w5.heap.size w5).alloc (Nat.le_refl _) (.cells #[.int .i64 0, .slice none 0 0] 29))
              have hS2 := HR.out _ hBa.below
              refine any_comes (i := 3) (by kernel_rfl) (op_valued (.pointer (some ⟨w5.heap.size, 0, none⟩)) 11 rfl rfl (by kernel_rfl) (w' := w5.alloc (.cells #[.int .i64 0, .slice none 0 0] 29)) (by kernel_rfl) ⟨hS2, ?_⟩)
              simp only [Act.put, List.setIfInBounds_toArray, List.set_cons_zero, List.set_cons_succ]
              refine take_d (i := 4) (.pointer (some ⟨g2, 0, none⟩)) 10 rfl (by kernel_rfl) (by kernel_rfl) (by kernel_rfl) (by kernel_rfl) rfl (by kernel_rfl) (by kernel_rfl) (fun V hV => by kernel_rfl) hS2 (fun _ _ _ h => h) ?_
              simp only [Act.put, List.setIfInBounds_toArray, List.set_cons_zero, List.set_cons_succ]
              have hVn : Vx v1 (w5.alloc (.cells #[.int .i64 0, .slice none 0 0] 29)) g2 F2 p w5.heap.size (.int .i64 0) (.slice none 0 0) A c := hB.var
              have hVp := hVn.put (u := .int .i64 lo) (v := .slice A n c)
              have hS3 := HR.out _ hVp.bo.below
              refine any_comes (i := 5) (by kernel_rfl) (op_store2 w5.heap.size lo A n c (.tmp 11) (.tmp 57) rfl (by kernel_rfl) (by kernel_rfl) rfl (by kernel_rfl) (by kernel_rfl) hVn.x.b ⟨hS3, ?_⟩)
              refine any_left (by kernel_rfl) ?_
              refine wpAny_tail 6 (by kernel_rfl) (by kernel_rfl) ?_
              have HVp := Lib.hid hVp
              clear hVp hVn hS0 hS1 hS2 hS3 hB hBa hb5 hnw hb0
              go_wp2_with (fail)
              refine ‹∀ (a' : Act) (w' : World), Met _ a' w' → _› _ _ ?_
              go_meet
              exact ⟨_, _, rfl, rfl, F2, HVp.out⟩
            · have hba : Below v1.heap.size v1 (World.alloc v1.drew (.cells #[.int .i64 0, .slice none 0 0] 29)) := hb0.alloc (Nat.le_refl _) _
              have hSa := HR.out _ hba
              refine op_valued (.pointer (some ⟨v1.heap.size, 0, none⟩)) 11 rfl rfl (by kernel_rfl) (w' := World.alloc v1.drew (.cells #[.int .i64 0, .slice none 0 0] 29)) (by kernel_rfl) ⟨hSa, ?_⟩
              simp only [Act.put, List.setIfInBounds_toArray, List.set_cons_zero, List.set_cons_succ]
              refine any_comes (i := 1) (by kernel_rfl) ?_
              refine op_enter 16 #[.pointer (some ⟨g, 0, none⟩)] (some 56) rfl (by kernel_rfl) (by kernel_rfl) (by kernel_rfl) ((HC.out _ hba).mono ?_)
              rintro e w5 ⟨g2, F2, rfl, hB, hb5, hnw⟩
              have hS1 := HR.out _ hB.below
              refine ⟨_, rfl, hS1, ?_⟩
              simp only [Act.put, List.setIfInBounds_toArray, List.set_cons_zero, List.set_cons_succ]
              refine take_d (i := 4) (.pointer (some ⟨g2, 0, none⟩)) 10 rfl (by kernel_rfl) (by kernel_rfl) (by kernel_rfl) (by kernel_rfl) rfl (by kernel_rfl) (by kernel_rfl) (fun V hV => by kernel_rfl) hS1 (fun _ _ _ h => h) ?_
              simp only [Act.put, List.setIfInBounds_toArray, List.set_cons_zero, List.set_cons_succ]
              have hVn : Vx v1 w5 g2 F2 p v1.heap.size (.int .i64 0) (.slice none 0 0) A c := ⟨hB, ⟨Blk.below (Blk.new v1.drew _ _) hb5 (Blk.new v1.drew _ _).lt, fun hf => by
                have h3 := hnw _ hf
                have h4 : v1.heap.size < (World.alloc v1.drew (.cells #[.int .i64 0, .slice none 0 0] 29)).heap.size := (Blk.new v1.drew _ _).lt
                omega, fun h0 ad e => Nat.ne_of_lt (HX1.out.below_of h0 ad e)⟩, Nat.le_refl _⟩
              have hVp := hVn.put (u := .int .i64 lo) (v := .slice A n c)
              have hS3 := HR.out _ hVp.bo.below
              refine any_comes (i := 5) (by kernel_rfl) (op_store2 v1.heap.size lo A n c (.tmp 11) (.tmp 57) rfl (by kernel_rfl) (by kernel_rfl) rfl (by kernel_rfl) (by kernel_rfl) hVn.x.b ⟨hS3, ?_⟩)
              refine any_left (by kernel_rfl) ?_
              refine wpAny_tail 6 (by kernel_rfl) (by kernel_rfl) ?_
              have HVp := Lib.hid hVp
              clear hVp hVn hS0 hS1 hSa hS3 hB hb5 hnw hba hb0
              go_wp2_with (fail)
              refine ‹∀ (a' : Act) (w' : World), Met _ a' w' → _› _ _ ?_
              go_meet
              exact ⟨_, _, rfl, rfl, F2, HVp.out⟩
          case rest =>
            obtain ⟨g2, gv, rfl, rfl, F2, HV2⟩ := hcut
            clear HC d0 d1
            go_wp2_with (fail)
            go_loopw [12, 13, 14] (fun x _ _ wr => ∃ i : Nat, i ≤ m2 ∧ x = .int .i64 (i : Int) ∧ ∃ (p' : Pl) (F : Nat → Prop) (B : Option Addr) (d : Nat), Hid ((p'.tk.length = n ∧ p'.lo = lo) ∧ Vx v1 wr g2 F p' gv (.int .i64 lo) (.slice B n d) B d)) (fun x _ _ _ => m2 - (intOf x).toNat)
            case atStart => exact ⟨0, by omega, rfl, p, F2, A, c, Hpo.out, HV2.out⟩
            case round =>
              clear HV2
              obtain ⟨i, hi, rfl, p, F, A, c, HV⟩ := hrel
              by_cases hlt : i < m2
              · have d0 : decide ((i : Int) < (m2 : Int)) = true := decide_eq_true (by omega)
                have d1 : decide (i < m2) = true := decide_eq_true hlt
                have y7 : IntKind.i64.wrap ((i : Int) + 1) = (i : Int) + 1 := IntWalk.i64_in _ (by omega)
                have HDL2 := HDL2'
                obtain ⟨b, off, rfl, hbb, hcc⟩ := HDL2.out.1 (by have := HDL2.out.2.1; omega)
                have hil : i < l2.length := by have := HDL2.out.2.1; omega
                obtain ⟨dA, dc, hV, k0, k1, k2⟩ := hcc i hil
                obtain ⟨kd, hkd⟩ : ∃ x, x = l2[i].kind := ⟨_, rfl⟩
                obtain ⟨nn, hnn⟩ : ∃ x, x = l2[i].n := ⟨_, rfl⟩
                obtain ⟨dl, hdl⟩ : ∃ x, x = l2[i].l.length := ⟨_, rfl⟩
                have hl30 := HDL2.out.2.2 i hil
                obtain ⟨p1, hp1⟩ : ∃ x, x = stepP p l2[i].kind l2[i].n l2[i].l := ⟨_, rfl⟩
                have hp1l : p1.tk.length = n ∧ p1.lo = lo := by
                  have h1 := stepP_load p l2[i].kind l2[i].n l2[i].l
                  have := HV.out.1
                  rw [hp1, h1.1, h1.2]; exact this
                have HD2 : Hid (∀ (W : World) (gz : Nat) (z0 z1 : Value), Vx v1 W g2 F p gv (.int .i64 lo) (.slice A n c) A c → Vy W F p A gz z0 z1 → Calls Tryd.prog 10 #[.pointer (some ⟨g2, 0, none⟩), .agg #[.int .i64 lo, .slice A n c], .agg #[.int .i64 kd, .int .i64 nn, .slice dA dl dc]] W fun e w' => ∃ F' A1 d1, e = .returned (.tuple #[.agg #[.int .i64 lo, .slice A1 n d1], .bool true]) ∧ Vx v1 w' g2 F' p1 gv (.int .i64 lo) (.slice A n c) A1 d1 ∧ Vy w' F' p1 A1 gz z0 z1) := fun W gz z0 z1 h hY => by
                  have h1 := do11_any h.bo l2[i].kind l2[i].n l2[i].l dA dl dc hV.ri hdl (by omega) hV.lin hV.nin
                  unfold plV at h1
                  rw [HV.out.1.1, HV.out.1.2, ← hp1, ← hkd, ← hnn] at h1
                  refine h1.mono fun e w' hh => ?_
                  obtain ⟨F', A1, d1, he, hB, ht, ho⟩ := hh
                  rw [hp1l.1, hp1l.2] at he
                  have carry : ∀ (gz : Nat) (q0 q1 : Value), Vy W F p A gz q0 q1 → Vy w' F' p1 A1 gz q0 q1 := fun gz q0 q1 hz => ⟨hz.b.turns ht hz.n, not_foot11 ht hz.b.lt hz.n, fun h0 ad e => by
                    rcases ho ad e with h2 | h2
                    · exact hz.a (by have := HV.out.1.1; have := hp1l.1; omega) ad h2
                    · have := hz.b.lt; omega⟩
                  exact ⟨F', A1, d1, he, ⟨hB, carry _ _ _ h.x, h.hx⟩, carry _ _ _ hY⟩
                have HD : Hid (∀ (W : World), Vx v1 W g2 F p gv (.int .i64 lo) (.slice A n c) A c → Calls Tryd.prog 10 #[.pointer (some ⟨g2, 0, none⟩), .agg #[.int .i64 lo, .slice A n c], .agg #[.int .i64 kd, .int .i64 nn, .slice dA dl dc]] W fun e w' => ∃ F' A1 d1, e = .returned (.tuple #[.agg #[.int .i64 lo, .slice A1 n d1], .bool true]) ∧ Vx v1 w' g2 F' p1 gv (.int .i64 lo) (.slice A n c) A1 d1) := fun W h => (HD2.out W gv _ _ h h.x).mono fun e w' hh => by
                  obtain ⟨F', A1, d1, he, h1, _⟩ := hh
                  exact ⟨F', A1, d1, he, h1⟩
                have HS : Hid (∀ (W : World) {F' : Nat → Prop} {p' : Pl} {A1 : Option Addr} {d1 : Nat}, Vx v1 W g2 F' p' gv (.int .i64 lo) (.slice A n c) A1 d1 → W.rangeAt gv 0 [.int .i64 lo, .slice A n c] ∧ W.rangeAt b (off + i * 3) [.int .i64 kd, .int .i64 nn, .slice dA dl dc]) := fun W F' p' A1 d1 h => ⟨range_blk h.x.b, by
                  have hb := h.bo.below
                  rw [hkd, hnn, hdl]
                  exact range_three ((hb.cell (p := ⟨b, off + i * 3, none⟩) hbb).trans k0) ((hb.cell (p := ⟨b, off + i * 3 + 1, none⟩) hbb).trans k1) ((hb.cell (p := ⟨b, off + i * 3 + 2, none⟩) hbb).trans k2)⟩
                have Hp1 := Lib.hid hp1l
                clear hcc hV k0 k1 k2 hkd hnn hdl hp1 hp1l hl30 hbb
                go_upto_region 15 with (fail)
                go_cut [13, 14] from 60 to 78 (fun s12 s13 wx => ∃ gz, s12 = .pointer (some ⟨gz, 0, none⟩) ∧ s13 = .bool true ∧ ∃ F' A1 d1, Hid (Vx v1 wx g2 F' p1 gv (.int .i64 lo) (.slice A n c) A1 d1 ∧ Vy wx F' p1 A1 gz (.int .i64 lo) (.slice A1 n d1)))
                case first =>
                  have hV0 := HV.out.2.more (Below.refl _ _).drew
                  have hS0 := HS.out _ hV0
                  refine region_T (fun V => V.rangeAt gv 0 [.int .i64 lo, .slice A n c] ∧ V.rangeAt b (off + i * 3) [.int .i64 kd, .int .i64 nn, .slice dA dl dc]) (fun k => decide (12 ≤ k)) (by kernel_rfl) ?_
                  refine any_asT rfl (listed' := #[false, false, false, false, false, false, false, false, false, false, false, false, false]) (by kernel_rfl) ?_
                  refine take_d (i := 0) (.pointer (some ⟨g2, 0, none⟩)) 67 rfl (by kernel_rfl) (by kernel_rfl) (by kernel_rfl) (by kernel_rfl) rfl (by kernel_rfl) (by kernel_rfl) (fun V hV => by kernel_rfl) hS0 (fun _ _ _ h => h) ?_
                  simp only [Act.put, List.setIfInBounds_toArray, List.set_cons_zero, List.set_cons_succ]
                  refine take_d (i := 1) (.agg #[.int .i64 lo, .slice A n c]) 68 rfl (by kernel_rfl) (by kernel_rfl) (by kernel_rfl) (by kernel_rfl) rfl (by kernel_rfl) (by kernel_rfl) (fun V hV => load_run 29 (.tmp 11) gv 0 [.int .i64 lo, .slice A n c] _ (by kernel_rfl) (by kernel_rfl) hV.1 Tryd.underlying29 rfl (by kernel_rfl) _ rfl) hS0 (fun _ _ _ h => h) ?_
                  simp only [Act.put, List.setIfInBounds_toArray, List.set_cons_zero, List.set_cons_succ]
                  refine take_d (i := 2) (.slice (some ⟨b, off, none⟩) m2 cA2) 69 rfl (by kernel_rfl) (by kernel_rfl) (by kernel_rfl) (by kernel_rfl) rfl (by kernel_rfl) (by kernel_rfl) (fun V hV => by kernel_rfl) hS0 (fun _ _ _ h => h) ?_
                  simp only [Act.put, List.setIfInBounds_toArray, List.set_cons_zero, List.set_cons_succ]
                  refine take_d (i := 3) (.int .i64 (i : Int)) 70 rfl (by kernel_rfl) (by kernel_rfl) (by kernel_rfl) (by kernel_rfl) rfl (by kernel_rfl) (by kernel_rfl) (fun V hV => by kernel_rfl) hS0 (fun _ _ _ h => h) ?_
                  simp only [Act.put, List.setIfInBounds_toArray, List.set_cons_zero, List.set_cons_succ]
                  refine take_d (i := 4) (.pointer (some ⟨b, off + i * 3, none⟩)) 71 rfl (by kernel_rfl) (by kernel_rfl) (by kernel_rfl) (by kernel_rfl) rfl (by kernel_rfl) (by kernel_rfl) (fun V hV => didx_run b off m2 cA2 i (.tmp 69) (.tmp 70) (by kernel_rfl) (by kernel_rfl) (by kernel_rfl) hlt) hS0 (fun _ _ _ h => h) ?_
                  simp only [Act.put, List.setIfInBounds_toArray, List.set_cons_zero, List.set_cons_succ]
                  refine take_d (i := 5) (.agg #[.int .i64 kd, .int .i64 nn, .slice dA dl dc]) 72 rfl (by kernel_rfl) (by kernel_rfl) (by kernel_rfl) (by kernel_rfl) rfl (by kernel_rfl) (by kernel_rfl) (fun V hV => load_run 38 (.tmp 71) b (off + i * 3) [.int .i64 kd, .int .i64 nn, .slice dA dl dc] _ (by kernel_rfl) (by kernel_rfl) hV.2 Tryd.underlying38 rfl (by kernel_rfl) _ rfl) hS0 (fun _ _ _ h => h) ?_
                  simp only [Act.put, List.setIfInBounds_toArray, List.set_cons_zero, List.set_cons_succ]
                  refine any_twoT (i := 6) (j := 10) (by kernel_rfl) ?_ ?_
                  · refine op_enter 10 #[.pointer (some ⟨g2, 0, none⟩), .agg #[.int .i64 lo, .slice A n c], .agg #[.int .i64 kd, .int .i64 nn, .slice dA dl dc]] (some 73) rfl (by kernel_rfl) (by kernel_rfl) (by kernel_rfl) ((HD.out _ hV0).mono ?_)
                    rintro e w5 ⟨F5, A1, d1, rfl, hV5⟩
                    have hS1 := HS.out _ hV5
                    refine ⟨_, rfl, hS1, ?_⟩
                    simp only [Act.put, List.setIfInBounds_toArray, List.set_cons_zero, List.set_cons_succ]
                    refine take_d (i := 7) (.tuple #[.agg #[.int .i64 lo, .slice A1 n d1], .bool true]) 66 rfl (by kernel_rfl) (by kernel_rfl) (by kernel_rfl) (by kernel_rfl) rfl (by kernel_rfl) (by kernel_rfl) (fun V hV => by kernel_rfl) hS1 (fun _ _ _ h => h) ?_
                    simp only [Act.put, List.setIfInBounds_toArray, List.set_cons_zero, List.set_cons_succ]
                    refine take_d (i := 8) (.agg #[.int .i64 lo, .slice A1 n d1]) 74 rfl (by kernel_rfl) (by kernel_rfl) (by kernel_rfl) (by kernel_rfl) rfl (by kernel_rfl) (by kernel_rfl) (fun V hV => by kernel_rfl) hS1 (fun _ _ _ h => h) ?_
                    simp only [Act.put, List.setIfInBounds_toArray, List.set_cons_zero, List.set_cons_succ]
                    refine take_d (i := 9) (.bool true) 75 rfl (by kernel_rfl) (by kernel_rfl) (by kernel_rfl) (by kernel_rfl) rfl (by kernel_rfl) (by kernel_rfl) (fun V hV => by kernel_rfl) hS1 (fun _ _ _ h => h) ?_
                    simp only [Act.put, List.setIfInBounds_toArray, List.set_cons_zero, List.set_cons_succ]
                    have hV6 := hV5.alloc (.cells #[.int .i64 0, .slice none 0 0] 29)
                    have hYb := hV5.fresh (.inr trivial) (Blk.new w5 29 #[.int .i64 0, .slice none 0 0])
                    have hS2 := HS.out _ hV6
                    have hgl := hV5.x.b.lt
                    refine any_comes (i := 10) (by kernel_rfl) (op_value (.pointer (some ⟨w5.heap.size, 0, none⟩)) rfl (by kernel_rfl) (w' := w5.alloc (.cells #[.int .i64 0, .slice none 0 0] 29)) (by kernel_rfl) rfl ⟨hS2, ?_⟩)
                    simp only [Act.put, List.setIfInBounds_toArray, List.set_cons_zero, List.set_cons_succ]
                    have hV7 := hV6.store (u := .int .i64 lo) (v := .slice A1 n d1) hYb (by omega) (Nat.le_trans hV5.hx (Nat.le_of_lt hgl))
                    have hS3 := HS.out _ hV7.1
                    refine any_comes (i := 11) (by kernel_rfl) (op_store2 w5.heap.size lo A1 n d1 (.tmp 13) (.tmp 74) rfl (by kernel_rfl) (by kernel_rfl) rfl (by kernel_rfl) (by kernel_rfl) hYb.b ⟨hS3, ?_⟩)
                    refine any_left (by kernel_rfl) ?_
                    refine wpAny_tail 12 (by kernel_rfl) (by kernel_rfl) ?_
                    have HV7 : Hid (Vx v1 (w5.alloc (.cells #[.int .i64 lo, .slice A1 n d1] 29)) g2 F5 p1 gv (.int .i64 lo) (.slice A n c) A1 d1 ∧ Vy (w5.alloc (.cells #[.int .i64 lo, .slice A1 n d1] 29)) F5 p1 A1 w5.heap.size (.int .i64 lo) (.slice A1 n d1)) := ⟨hV5.alloc _, hV5.fresh (.inr trivial) (Blk.new w5 _ _)⟩
                    clear hV7 hV6 hV5 hV0 hS0 hS1 hS2 hS3 hYb
                    go_wp2_with (fail)
                    go_meet
                    exact ⟨_, rfl, rfl, F5, A1, d1, HV7.out⟩
                  · have hVa := hV0.alloc (.cells #[.int .i64 0, .slice none 0 0] 29)
                    have hSa := HS.out _ hVa
                    have hgl : gv < wr.heap.size := hV0.x.b.lt
                    have hwl : v1.heap.size ≤ wr.heap.size := Nat.le_trans hV0.hx (Nat.le_of_lt hgl)
                    refine op_value (.pointer (some ⟨wr.heap.size, 0, none⟩)) rfl (by kernel_rfl) (w' := World.alloc wr.drew (.cells #[.int .i64 0, .slice none 0 0] 29)) (by kernel_rfl) rfl ⟨hSa, ?_⟩
                    simp only [Act.put, List.setIfInBounds_toArray, List.set_cons_zero, List.set_cons_succ]
                    refine any_comes (i := 6) (by kernel_rfl) ?_
                    refine op_enter 10 #[.pointer (some ⟨g2, 0, none⟩), .agg #[.int .i64 lo, .slice A n c], .agg #[.int .i64 kd, .int .i64 nn, .slice dA dl dc]] (some 73) rfl (by kernel_rfl) (by kernel_rfl) (by kernel_rfl) ((HD2.out _ wr.heap.size _ _ hVa (hV0.fresh (.inr trivial) (Blk.new wr.drew 29 #[.int .i64 0, .slice none 0 0]))).mono ?_)
                    rintro e w5 ⟨F5, A1, d1, rfl, hV5, hYb⟩
                    have hS1 := HS.out _ hV5
                    refine ⟨_, rfl, hS1, ?_⟩
                    simp only [Act.put, List.setIfInBounds_toArray, List.set_cons_zero, List.set_cons_succ]
                    refine take_d (i := 7) (.tuple #[.agg #[.int .i64 lo, .slice A1 n d1], .bool true]) 66 rfl (by kernel_rfl) (by kernel_rfl) (by kernel_rfl) (by kernel_rfl) rfl (by kernel_rfl) (by kernel_rfl) (fun V hV => by kernel_rfl) hS1 (fun _ _ _ h => h) ?_
                    simp only [Act.put, List.setIfInBounds_toArray, List.set_cons_zero, List.set_cons_succ]
                    refine take_d (i := 8) (.agg #[.int .i64 lo, .slice A1 n d1]) 74 rfl (by kernel_rfl) (by kernel_rfl) (by kernel_rfl) (by kernel_rfl) rfl (by kernel_rfl) (by kernel_rfl) (fun V hV => by kernel_rfl) hS1 (fun _ _ _ h => h) ?_
                    simp only [Act.put, List.setIfInBounds_toArray, List.set_cons_zero, List.set_cons_succ]
                    refine take_d (i := 9) (.bool true) 75 rfl (by kernel_rfl) (by kernel_rfl) (by kernel_rfl) (by kernel_rfl) rfl (by kernel_rfl) (by kernel_rfl) (fun V hV => by kernel_rfl) hS1 (fun _ _ _ h => h) ?_
                    simp only [Act.put, List.setIfInBounds_toArray, List.set_cons_zero, List.set_cons_succ]
                    have hV7 := hV5.store (u := .int .i64 lo) (v := .slice A1 n d1) hYb (by omega) hwl
                    have hS3 := HS.out _ hV7.1
                    refine any_comes (i := 11) (by kernel_rfl) (op_store2 wr.heap.size lo A1 n d1 (.tmp 13) (.tmp 74) rfl (by kernel_rfl) (by kernel_rfl) rfl (by kernel_rfl) (by kernel_rfl) hYb.b ⟨hS3, ?_⟩)
                    refine any_left (by kernel_rfl) ?_
                    refine wpAny_tail 12 (by kernel_rfl) (by kernel_rfl) ?_
                    have HV7 := Lib.hid hV7
                    clear hV7 hVa hV5 hV0 hS0 hS1 hS3 hYb hSa
                    go_wp2_with (fail)
                    go_meet
                    exact ⟨_, rfl, rfl, F5, A1, d1, HV7.out⟩
                case rest =>
                  obtain ⟨gz, rfl, rfl, F1, A1, d1, HX⟩ := hcut
                  have hX := HX.out.1
                  have hY := HX.out.2
                  have e0 : wc.cell? ⟨gv, 0, none⟩ = some (.int .i64 lo) := hX.x.b.cell 0
                  have e1 : wc.cell? ⟨gv, 1, none⟩ = some (.slice A n c) := hX.x.b.cell 1
                  have f0 := hX.x.b.frozen 0
                  have f1 := hX.x.b.frozen 1
                  have e2 : wc.cell? ⟨gz, 0, none⟩ = some (.int .i64 lo) := hY.b.cell 0
                  have e3 : wc.cell? ⟨gz, 1, none⟩ = some (.slice A1 n d1) := hY.b.cell 1
                  have HPx := Lib.hid (hX.put (u := .int .i64 lo) (v := .slice A1 n d1))
                  clear hX hY
                  go_wp2_with (fail)
                  go_roundw
                  case rel => exact ⟨i + 1, by omega, by go_num, p1, F1, A1, d1, Hp1.out, HPx.out⟩
                  case measure => simp [intOf]; omega
              · have d0 : decide ((i : Int) < (m2 : Int)) = false := decide_eq_false (by omega)
                have d1 : decide (i < m2) = false := decide_eq_false hlt
                obtain ⟨v2, hv2⟩ : ∃ v2 : World, v2 = wr := ⟨_, rfl⟩
                subst hv2
                have HXx : Hid (∀ W, Below v2.heap.size v2 W → Vx w W g _ _ gx (.int .i64 lo) (.slice _ n _) _ _) := fun W hb => HX1.out.more (HV.out.2.bo.below.trans (hb.mono HV.out.2.bo.below.size))
                go_wp2_with (first
                  | (go_at_call 12; (with_reducible refine (ptake_none 1 _).mono ?_); rintro e v3 ⟨⟨Bt, ct, rfl⟩, b3⟩; have e0 : v3.cell? ⟨gx, 0, none⟩ = _ := (HXx.out _ b3).x.b.cell 0; have e1 : v3.cell? ⟨gx, 1, none⟩ = _ := (HXx.out _ b3).x.b.cell 1)
                  | (go_at_call 11; have hx := HAl.out v3 _ _ _ _ _ _ _ _ _ (HXx.out _ b3) Hpo.out; (with_reducible refine hx.mono ?_); clear hx; rintro e v4 ⟨rfl, b4⟩; have b4' := b3.trans (b4.mono b3.size); have HY4 := Lib.hid (HV.out.2.more b4'); have e2 : v4.cell? ⟨gv, 0, none⟩ = _ := HY4.out.x.b.cell 0; have e3 : v4.cell? ⟨gv, 1, none⟩ = _ := HY4.out.x.b.cell 1)
                  | (go_at_call 11; have hx := HAl.out v4 _ _ _ _ _ _ _ _ _ HY4.out HV.out.1; (with_reducible refine hx.mono ?_); clear hx; rintro e v5 ⟨rfl, b5⟩; have b5' := b4'.trans (b5.mono b4'.size))
                  | (go_at_call 13; (with_reducible refine (pgive_none none 0 0 _).mono ?_); rintro e v6 ⟨rfl, b6⟩; have b6' := b5'.trans (b6.mono b5'.size))
                  | (go_at_call 17; (with_reducible refine (pmark_none none 0 0 _).mono ?_); rintro e v7 ⟨rfl, b7⟩; have b7' := b6'.trans (b7.mono b6'.size))
                  | (go_at_call 14; (with_reducible refine (pfree_none _).mono ?_); rintro e v8 ⟨rfl, b8⟩; have b8' := b7'.trans (b8.mono b7'.size))
                  | (go_at_call 15; (with_reducible refine (ptaken_none _).mono ?_); rintro e v9 ⟨⟨Bq, cq, rfl⟩, b9⟩; have b9' := b8'.trans (b9.mono b8'.size))
                  | (go_at_call 18; (with_reducible refine (phas_none 1 _).mono ?_); rintro e v10 ⟨rfl, b10⟩; have b10' := b9'.trans (b10.mono b9'.size))
                  | (go_at_call 16; (with_reducible refine (pclone_none _).mono ?_); rintro e v11 ⟨rfl, b11⟩; have b11' := b10'.trans (b11.mono b10'.size); have bw := HX1.out.bo.below.trans ((HV.out.2.bo.below.trans (b11'.mono HV.out.2.bo.below.size)).mono HX1.out.bo.below.size))
                  | (go_at_call 9; (with_reducible refine (HAw.out _ bw).mono ?_); rintro e wz ⟨rfl, bz⟩))
                go_ret
                exact ⟨rfl, bw.trans (bz.mono bw.size)⟩
set_option maxRecDepth 100000 in
theorem poolclones_lifted (os : Os) (started : os.Started) (H : Type) (enc : TypeId × Value → H) :
    ReturnsInHanded {} Tryd.checked os 5 .any (fun w args => (Rows.poolClonesSpec.pre enc Tryd.prog Tryd.f5 [] false w args ∧ laidMetH Tryd.prog laidZ w) ∧ sizedMet enc Tryd.prog Tryd.f5 (OpenSpec.ofChange Rows.poolClonesSpec) false w args) (Rows.poolClonesSpec.post enc Tryd.prog Tryd.f5 false true false false) := by
  refine returnsInHanded_of_change_and (C := Tryd.checked) (X := fun w _ => laidMetH Tryd.prog laidZ w) (fun _ _ _ hh h => h.of_heap hh) Tryd.own started (by kernel_rfl) Tryd.func5
    (ChangeSpec.witness_shaped (enc := enc) (C := Tryd.checked) (os := os) (X := fun w _ => laidMetH Tryd.prog laidZ w) false (World.doorLaid Tryd.prog 400 os) #[.slice none 0 0, .slice none 0 0] 8 rfl (World.shaped_of_RefB (by kernel_rfl) (by kernel_rfl)) (by kernel_rfl) (by kernel_rfl) (by kernel_rfl) (doorZ_met os _)) ?_
  intro W base args ds gs before hval0 hW hcnd hsz0 hLd _
  have hval : ∀ (j : Nat) t v, Tryd.f5.params[j]? = some t → args[j]? = some v → Value.okWide Tryd.prog W .any base t v := hval0
  have hW' : DataW.Whole enc Tryd.prog Tryd.f5.params.toList Rows.poolClonesSpec.vars false W args.toList ds gs before := hW
  have hWk := hW'
  clear hsz0 hval0
  obtain ⟨p, q, hA, hV, rfl, hfz, hnd⟩ := hW'
  rw [Tryd.params5] at hA hval
  obtain ⟨v0, v1, d0, d1, p0, p1, rfl, rfl, rfl, h0, h1⟩ := trodAll_two hA
  obtain ⟨rfl, rfl⟩ := trodVars_none hV
  obtain ⟨A, D, c, rfl, hD, _, _⟩ := open_dpl (hval 0 22 v0 rfl rfl) h0
  obtain ⟨A2, D2, c2, rfl, hD2, _, _⟩ := open_dpl (hval 1 22 v1 rfl rfl) h1
  refine (poolclones_any D D2 A A2 _ _ c c2 W hD rfl hD2 rfl (tz_of_laid hLd)).mono fun e W' ⟨he, hb⟩ => ⟨_, he, ?_⟩
  exact law_post Tryd.laidOut hWk rfl rfl rfl rfl rfl Tryd.underlying4 (by kernel_rfl) hb
theorem poolclones_said : Rows.PoolClonesSaid :=
  OpenClaim.holds_of_wide 5 Tryd.f5 rfl rfl rfl rfl rfl rfl rfl ⟨rfl, rfl, rfl, rfl, rfl⟩ rfl rfl rfl rfl rfl (by kernel_rfl) Tryd.func5 (by kernel_rfl)
    (of_decide_eq_true (by kernel_rfl)) (by unfold Func.isWrapper; first | (rw [if_pos (by decide +kernel)]; kernel_rfl) | (rw [if_neg (by decide +kernel)]; exact ⟨rfl, rfl⟩))
    (fun os started H enc _ => poolclones_lifted os started H enc)
theorem poolclones_holds : Rows.PoolClonesCardSaid :=
  Claim7.holds_tied_plain_at .later [] [.data] true Rows.poolClonesCard.stood.harness false
    poolclones_said (fun _ h => by cases h) (by kernel_rfl) (fun _ h => by cases h) poolClones_row_tie rfl ⟨rfl, rfl⟩ (by kernel_rfl) rfl
    (fun f fn hf hfn => by
      obtain rfl : f = 5 := Option.some.inj ((show Tryd.prog.funcNamed "chantry/chantrylaw11.PoolClones" = some 5 by kernel_rfl).symm.trans hf) |>.symm
      obtain rfl : fn = Tryd.f5 := (Option.some.inj (Tryd.func5.symm.trans hfn)).symm
      exact ⟨by kernel_rfl, fun j t ht => by
        rw [Tryd.params5] at ht
        have hm : t ∈ [22, 22] := by simpa using Array.mem_of_getElem? ht
        have hall : ([22, 22].all fun u => !Tryd.prog.wantsStandIn u) = true := by kernel_rfl
        exact (show Tryd.prog.wantsStandIn t = false by simpa using List.all_eq_true.1 hall t hm)⟩)
    (by kernel_rfl)
end Go.Proofs.YtibaaideleinhaaDoor
