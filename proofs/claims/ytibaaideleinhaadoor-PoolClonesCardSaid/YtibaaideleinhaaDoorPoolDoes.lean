/- PoolDoes returns true for every two bounds and every list of deeds, and leaves memory that was there as it was; the library table of math/bits lies as its text lays it (the card ties that); nothing else is assumed beyond the statement itself. -/
import Derived.Test.YtibaaideleinhaaDoorPoolDo
import Derived.Test.YtibaaideleinhaaDoorPoolAwake
import Derived.Test.YtibaaideleinhaaDoorPoolROf
import Derived.Test.YtibaaideleinhaaDoorPoolOpen
import Derived.Deep.CutRange
import Derived.Test.YtibaaideleinhaaDoorBitsLaid
import Derived.Test.YtibaaideleinhaaDoorCards
import Derived.Test.YtibaaideleinhaaDoorTie
import Derived.SevenTiedAt
set_option linter.unusedVariables false
namespace Go.Proofs.YtibaaideleinhaaDoor
open Go.ChangeShapes Go.WideShapes Go.ChangeAt Go.RowKit

theorem stepP_load (p : Pl) (k n : Int) (l : List Int) : (stepP p k n l).lo = p.lo ∧ (stepP p k n l).tk.length = p.tk.length := by
  unfold stepP
  split
  · exact ⟨(p.take_load n).1, (p.take_load n).2.1⟩
  · split
    · exact p.give_load l
    · split
      · exact p.mark_load l
      · exact ⟨rfl, rfl⟩
theorem Tryd.pNeS (g : Nat) (w : World) : Sem.run Tryd.prog (binOp .neq 23 (.pointer (some ⟨g, 0, none⟩)) (.pointer none)) w = .ok (.bool true) w := by kernel_rfl
theorem Tryd.pNeN (w : World) : Sem.run Tryd.prog (binOp .neq 23 (.pointer none) (.pointer none)) w = .ok (.bool false) w := by kernel_rfl
theorem didx_run (b off n c i : Nat) {o : Oper} {a : Act} {w : World} (x y : Operand) (ho : o.op = .indexAddr 22 x y) (hx : a.eval x = .slice (some ⟨b, off, none⟩) n c) (hy : a.eval y = .int .i64 (i : Int)) (hi : i < n) :
    (execOp a.eval o).run Tryd.prog w = .ok (.value (.pointer (some ⟨b, off + i * 3, none⟩))) w := by
  have hu : (underlying 22).run Tryd.prog w = .ok (.slice 38) w := by kernel_rfl
  unfold execOp
  simp [ho, hx, hy, Instr.indexAt, asIntOf, hu, hi, zadd_at]
/-- A pool's variable of the law, beside both pools. -/
structure Vy (W : World) (F : Nat → Prop) (p : Pl) (A : Option Addr) (gy : Nat) (z0 z1 : Value) : Prop where
  b : Blk W gy 29 #[z0, z1]
  n : ¬ F gy
  a : 0 < p.tk.length → ∀ ad, A = some ad → ad.block ≠ gy
structure Vx (w W : World) (g : Nat) (F : Nat → Prop) (p : Pl) (gx : Nat) (x0 x1 : Value) (A : Option Addr) (c : Nat) : Prop where
  bo : Bo w W g F p p A c
  x : Vy W F p A gx x0 x1
  hx : w.heap.size ≤ gx
section
variable {w W W' : World} {g gx gy : Nat} {F : Nat → Prop} {p : Pl} {x0 x1 z0 z1 u v : Value} {A : Option Addr} {c : Nat}
theorem Vx.more (h : Vx w W g F p gx x0 x1 A c) (hb : Below W.heap.size W W') : Vx w W' g F p gx x0 x1 A c := ⟨h.bo.more hb, ⟨Blk.below h.x.b hb h.x.b.lt, h.x.n, h.x.a⟩, h.hx⟩
theorem Vx.alloc (h : Vx w W g F p gx x0 x1 A c) (o : Obj) : Vx w (W.alloc o) g F p gx x0 x1 A c := h.more ((Below.refl _ _).alloc (Nat.le_refl _) o)
/-- A new block is none of the pools'. -/
theorem Vx.fresh (h : Vx w W g F p gx x0 x1 A c) (hW : W'.heap.size = W.heap.size ∨ True) (hb : Blk W' W.heap.size 29 #[z0, z1]) : Vy W' F p A W.heap.size z0 z1 := ⟨hb, fun hf => Nat.lt_irrefl _ (h.bo.pp.flt _ hf), fun h0 ad e => by
  obtain ⟨b, off, e2, hlt, _⟩ := h.bo.rf.bs.at_ h0
  rw [e] at e2; injection e2 with e2; subst e2
  show b ≠ _
  omega⟩
theorem Vx.store (h : Vx w W g F p gx x0 x1 A c) (hY : Vy W F p A gy z0 z1) (hne : gx ≠ gy) (hw : w.heap.size ≤ gy) : Vx w ((W.setCell ⟨gy, 0, none⟩ u).setCell ⟨gy, 1, none⟩ v) g F p gx x0 x1 A c ∧ Vy ((W.setCell ⟨gy, 0, none⟩ u).setCell ⟨gy, 1, none⟩ v) F p A gy u v := by
  have k := (hY.b.set_ 0 u).set_ 1 v
  exact ⟨⟨h.bo.set2 hY.n hY.a hw (ne_tab hY.b h.bo.pp.tz (by simp)), ⟨Blk.far (p := ⟨gy, 1, none⟩) (Blk.far (p := ⟨gy, 0, none⟩) h.x.b hne _) hne _, h.x.n, h.x.a⟩, h.hx⟩, ⟨by simpa using k, hY.n, hY.a⟩⟩
/-- A store into the variable itself. -/
theorem Vx.put (h : Vx w W g F p gx x0 x1 A c) : Vx w ((W.setCell ⟨gx, 0, none⟩ u).setCell ⟨gx, 1, none⟩ v) g F p gx u v A c := by
  have k := (h.x.b.set_ 0 u).set_ 1 v
  exact ⟨h.bo.set2 h.x.n h.x.a h.hx (ne_tab h.x.b h.bo.pp.tz (by simp)), ⟨by simpa using k, h.x.n, h.x.a⟩, h.hx⟩
end
theorem range_three {w : World} {b off : Nat} {v0 v1 v2 : Value} (h0 : w.cell? ⟨b, off, none⟩ = some v0) (h1 : w.cell? ⟨b, off + 1, none⟩ = some v1) (h2 : w.cell? ⟨b, off + 2, none⟩ = some v2) : w.rangeAt b off [v0, v1, v2] := by
  intro j v hj
  match j with
  | 0 => simp at hj; rw [← hj]; exact h0
  | 1 => simp at hj; rw [← hj]; exact h1
  | 2 => simp at hj; rw [← hj]; exact h2
  | j + 3 => simp at hj
set_option maxRecDepth 100000 in
set_option maxHeartbeats 8000000 in
theorem pooldoes_any (za zb : Int) (l : List Dp) (A0 : Option Addr) (m cA : Nat) (w : World) (hL : DpL w w.heap.size A0 l) (hm : m = l.length) (hT : Tq w) :
    Calls Tryd.prog 3 #[.int .i64 za, .int .i64 zb, .slice A0 m cA] w fun e w' => e = .returned (.bool true) ∧ Below w.heap.size w w' := by
  obtain ⟨fw, hfw⟩ : ∃ x, x = fewP l := ⟨_, rfl⟩
  have HFw : Hid (∀ W, Below w.heap.size w W → Calls Tryd.prog 8 #[.slice A0 m cA] W fun e w' => e = .returned (.bool fw) ∧ Below W.heap.size W w') := fun W hb => by rw [hfw]; exact fewP_any l A0 m cA hb hL hm
  have HT := Lib.hid hT
  clear hT
  have HAw : Hid (∀ W, Below w.heap.size w W → Calls Tryd.prog 9 #[] W fun e w' => e = .returned (.bool true) ∧ Below W.heap.size W w') := fun W hb => awake11_any W (HT.out.below hb)
  have n0 := fun w' => Tryd.pNotF w'
  have n1 := fun w' => Tryd.pNotT w'
  have p0 := fun g w' => Tryd.pNeS g w'
  have p1 := fun w' => Tryd.pNeN w'
  have a0 := fun w' => Tryd.poolAgg w'
  have s0 := fun w' => Tryd.poolSize w'
  cases hok : Pl.ofOk za zb with
  | false =>
    have HO : Hid (∀ W, Calls Tryd.prog 6 #[.int .i64 za, .int .i64 zb] W fun e w' => e = .returned (.tuple #[.pointer none, .int .i64 1]) ∧ Below W.heap.size W w') := fun W => pof_no za zb W hok
    have HR : Hid (∀ W, Calls Tryd.prog 7 #[.int .i64 za, .int .i64 zb] W fun e w' => e = .returned (.tuple #[.agg #[.int .i64 0, .slice none 0 0], .int .i64 1]) ∧ Below W.heap.size W w') := fun W => rpof_no za zb W hok
    clear hL hm hfw hok
    rcases fw with _ | _
    · go_enter Tryd.func3, Tryd.ntmps3
      go_wp2_with (first
        | (go_at_call 6; (with_reducible refine (HO.out _).mono ?_); rintro e w1 ⟨rfl, b1⟩)
        | (go_at_call 7; (with_reducible refine (HR.out _).mono ?_); rintro e w2 ⟨rfl, b2⟩; have b3 := (b1.trans (b2.mono b1.size)).alloc (b1.trans (b2.mono b1.size)).size (.cells #[.int .i64 0, .slice none 0 0] 29))
        | (go_at_call 8; (with_reducible refine (HFw.out _ b3).mono ?_); rintro e w4 ⟨rfl, b4⟩; have b5 := b3.trans (b4.mono b3.size))
        | (go_at_call 9; (with_reducible refine (HAw.out _ b5).mono ?_); rintro e w6 ⟨rfl, b6⟩))
      go_ret
      exact ⟨rfl, b5.trans (b6.mono b5.size)⟩
    · by_cases hm0 : 0 < m
      · have d0 : decide ((0 : Int) < (m : Int)) = true := decide_eq_true (by omega)
        go_enter Tryd.func3, Tryd.ntmps3
        go_wp2_with (first
          | (go_at_call 6; (with_reducible refine (HO.out _).mono ?_); rintro e w1 ⟨rfl, b1⟩)
          | (go_at_call 7; (with_reducible refine (HR.out _).mono ?_); rintro e w2 ⟨rfl, b2⟩; have b3 := (b1.trans (b2.mono b1.size)).alloc (b1.trans (b2.mono b1.size)).size (.cells #[.int .i64 0, .slice none 0 0] 29))
          | (go_at_call 8; (with_reducible refine (HFw.out _ b3).mono ?_); rintro e w4 ⟨rfl, b4⟩; have b5 := b3.trans (b4.mono b3.size)))
        go_loopw [11, 12, 13] (fun x _ _ wr => x = .int .i64 0 ∧ wr = w4) (fun x _ _ _ => 0)
        case atStart => exact ⟨rfl, rfl⟩
        case round =>
          obtain ⟨rfl, rfl⟩ := hrel
          go_wp2_with (go_at_call 9; (with_reducible refine (HAw.out _ b5).mono ?_); rintro e w6 ⟨rfl, b6⟩)
          go_ret
          exact ⟨rfl, b5.trans (b6.mono b5.size)⟩
      · obtain rfl : m = 0 := by omega
        go_enter Tryd.func3, Tryd.ntmps3
        go_wp2_with (first
          | (go_at_call 6; (with_reducible refine (HO.out _).mono ?_); rintro e w1 ⟨rfl, b1⟩)
          | (go_at_call 7; (with_reducible refine (HR.out _).mono ?_); rintro e w2 ⟨rfl, b2⟩; have b3 := (b1.trans (b2.mono b1.size)).alloc (b1.trans (b2.mono b1.size)).size (.cells #[.int .i64 0, .slice none 0 0] 29))
          | (go_at_call 8; (with_reducible refine (HFw.out _ b3).mono ?_); rintro e w4 ⟨rfl, b4⟩; have b5 := b3.trans (b4.mono b3.size)))
        go_loopw [11, 12, 13] (fun x _ _ wr => x = .int .i64 0 ∧ wr = w4) (fun x _ _ _ => 0)
        case atStart => exact ⟨rfl, rfl⟩
        case round =>
          obtain ⟨rfl, rfl⟩ := hrel
          go_wp2_with (go_at_call 9; (with_reducible refine (HAw.out _ b5).mono ?_); rintro e w6 ⟨rfl, b6⟩)
          go_ret
          exact ⟨rfl, b5.trans (b6.mono b5.size)⟩
  | true =>
    obtain ⟨n, hn⟩ : ∃ n, n = (Pl.made za zb).tk.length := ⟨_, rfl⟩
    obtain ⟨lo, hlo⟩ : ∃ n, n = (Pl.made za zb).lo := ⟨_, rfl⟩
    have HO : Hid (∀ W, Below w.heap.size w W → Calls Tryd.prog 6 #[.int .i64 za, .int .i64 zb] W fun e w' => ∃ g F, e = .returned (.tuple #[.pointer (some ⟨g, 0, none⟩), .int .i64 0]) ∧ Pa w w' g F (Pl.made za zb)) := fun W hb => (pof_yes za zb W hok (HT.out.below hb)).mono fun e w' hh => by
      obtain ⟨g, F, he, h1, h2, h3⟩ := hh
      exact ⟨g, F, he, h1, fun k hk => Nat.le_trans hb.size (h3 k hk), hb.trans (h2.mono hb.size)⟩
    have HR : Hid (∀ W g F, Pa w W g F (Pl.made za zb) → Calls Tryd.prog 7 #[.int .i64 za, .int .i64 zb] W fun e w' => ∃ A c, e = .returned (.tuple #[.agg #[.int .i64 lo, .slice A n c], .int .i64 0]) ∧ Bo w w' g F (Pl.made za zb) (Pl.made za zb) A c) := fun W g F h => (rpof_yes za zb W hok).mono fun e w' hh => by
      obtain ⟨A, c, he, hp, ho, hb⟩ := hh
      unfold plV at he
      rw [← hn, ← hlo] at he
      have h2 := h.more hb
      exact ⟨A, c, he, h2.pp, hp, fun h0 ad e hf => by have := ho ad e; have := h.pp.flt _ hf; omega, h2.own, h2.below⟩
    rcases fw with _ | _
    · clear hL hm hfw hok hn hlo
      go_enter Tryd.func3, Tryd.ntmps3
      go_wp2_with (first
        | (go_at_call 6; have hx := HO.out w (Below.refl _ _); (with_reducible refine hx.mono ?_); clear hx; rintro e w1 ⟨g, F, rfl, s1⟩)
        | (go_at_call 7; have hx := HR.out w1 g F s1; (with_reducible refine hx.mono ?_); clear hx; rintro e w2 ⟨A, c, rfl, s2⟩; have b3 := s2.below.alloc s2.below.size (.cells #[.int .i64 lo, .slice A n c] 29))
        | (go_at_call 8; (with_reducible refine (HFw.out _ b3).mono ?_); rintro e w4 ⟨rfl, b4⟩; have b5 := b3.trans (b4.mono b3.size))
        | (go_at_call 9; (with_reducible refine (HAw.out _ b5).mono ?_); rintro e w6 ⟨rfl, b6⟩))
      go_ret
      exact ⟨rfl, b5.trans (b6.mono b5.size)⟩
    · obtain ⟨m30, mall⟩ := fewP_all hfw.symm
      have hm30 : m ≤ 30 := by omega
      have HDL : Hid (DpL w w.heap.size A0 l ∧ m = l.length ∧ ∀ i (hi : i < l.length), l[i].l.length ≤ 30) := ⟨hL, hm, mall⟩
      have hsm : (Pl.made za zb).tk.length = n ∧ (Pl.made za zb).lo = lo := ⟨hn.symm, hlo.symm⟩
      have Hsm := Lib.hid hsm
      have HAl : Hid (∀ W g F p gx x0 x1 A c, Vx w W g F p gx x0 x1 A c → p.tk.length = n ∧ p.lo = lo → Calls Tryd.prog 11 #[.pointer (some ⟨g, 0, none⟩), .agg #[.int .i64 lo, .slice A n c]] W fun e w' => e = .returned (.bool true) ∧ Below W.heap.size W w') := fun W g F p gx x0 x1 A c h hp => by
        have := alike11_any h.bo
        unfold plV at this
        rwa [hp.1, hp.2] at this
      clear hL hm hfw hok m30 mall hn hlo hsm
      go_enter Tryd.func3, Tryd.ntmps3
      go_wp2_with (first
        | (go_at_call 6; have hx := HO.out w (Below.refl _ _); (with_reducible refine hx.mono ?_); clear hx; rintro e w1 ⟨g, F, rfl, s1⟩)
        | (go_at_call 7; have hx := HR.out w1 g F s1; (with_reducible refine hx.mono ?_); clear hx; rintro e w2 ⟨A, c, rfl, s2⟩; have b3 := s2.below.alloc s2.below.size (.cells #[.int .i64 lo, .slice A n c] 29))
        | (go_at_call 8; (with_reducible refine (HFw.out _ b3).mono ?_); rintro e w4 ⟨rfl, b4⟩))
      have hV0 : Vx w (w2.alloc (.cells #[.int .i64 lo, .slice A n c] 29)) g F (Pl.made za zb) w2.heap.size (.int .i64 lo) (.slice A n c) A c := ⟨s2.more ((Below.refl _ _).alloc (Nat.le_refl _) _), ⟨Blk.new _ _ _, fun hf => Nat.lt_irrefl _ (s2.pp.flt _ hf), fun h0 ad e => by
        obtain ⟨b, off, e2, hlt, _⟩ := s2.rf.bs.at_ h0
        rw [e] at e2; injection e2 with e2; subst e2
        show b ≠ _
        omega⟩, s2.below.size⟩
      have hV4 := hV0.more b4
      go_loopw [11, 12, 13] (fun x _ _ wr => ∃ i : Nat, i ≤ m ∧ x = .int .i64 (i : Int) ∧ ∃ (p : Pl) (F : Nat → Prop) (A : Option Addr) (c : Nat), Hid ((p.tk.length = n ∧ p.lo = lo) ∧ Vx w wr g F p w2.heap.size (.int .i64 lo) (.slice A n c) A c)) (fun x _ _ _ => m - (intOf x).toNat)
      case atStart => exact ⟨0, by omega, rfl, _, F, A, c, Hsm.out, hV4⟩
      case round =>
        clear hV4 hV0 b4 b3 s2 s1 HO HR HFw Hsm
        obtain ⟨i, hi, rfl, p, F, A, c, HV⟩ := hrel
        obtain ⟨gx, hgx⟩ : ∃ g, g = w2.heap.size := ⟨_, rfl⟩
        rw [← hgx] at HV ⊢
        clear hgx
        by_cases hlt : i < m
        · have d0 : decide ((i : Int) < (m : Int)) = true := decide_eq_true (by omega)
          have d1 : decide (i < m) = true := decide_eq_true hlt
          have y7 : IntKind.i64.wrap ((i : Int) + 1) = (i : Int) + 1 := IntWalk.i64_in _ (by omega)
          obtain ⟨b, off, rfl, hbb, hcc⟩ := HDL.out.1 (by have := HDL.out.2.1; omega)
          have hil : i < l.length := by have := HDL.out.2.1; omega
          obtain ⟨dA, dc, hV, k0, k1, k2⟩ := hcc i hil
          obtain ⟨kd, hkd⟩ : ∃ x, x = l[i].kind := ⟨_, rfl⟩
          obtain ⟨nn, hnn⟩ : ∃ x, x = l[i].n := ⟨_, rfl⟩
          obtain ⟨dl, hdl⟩ : ∃ x, x = l[i].l.length := ⟨_, rfl⟩
          have hl30 := HDL.out.2.2 i hil
          obtain ⟨p1, hp1⟩ : ∃ x, x = stepP p l[i].kind l[i].n l[i].l := ⟨_, rfl⟩
          have hp1l : p1.tk.length = n ∧ p1.lo = lo := by
            have h1 := stepP_load p l[i].kind l[i].n l[i].l
            have := HV.out.1
            rw [hp1, h1.1, h1.2]; exact this
          have HD2 : Hid (∀ (W : World) (gy : Nat) (z0 z1 : Value), Vx w W g F p gx (.int .i64 lo) (.slice A n c) A c → Vy W F p A gy z0 z1 → Calls Tryd.prog 10 #[.pointer (some ⟨g, 0, none⟩), .agg #[.int .i64 lo, .slice A n c], .agg #[.int .i64 kd, .int .i64 nn, .slice dA dl dc]] W fun e w' => ∃ F' A1 d1, e = .returned (.tuple #[.agg #[.int .i64 lo, .slice A1 n d1], .bool true]) ∧ Vx w w' g F' p1 gx (.int .i64 lo) (.slice A n c) A1 d1 ∧ Vy w' F' p1 A1 gy z0 z1) := fun W gy z0 z1 h hY => by
            have h1 := do11_any h.bo l[i].kind l[i].n l[i].l dA dl dc hV.ri hdl (by omega) hV.lin hV.nin
            unfold plV at h1
            rw [HV.out.1.1, HV.out.1.2, ← hp1, ← hkd, ← hnn] at h1
            refine h1.mono fun e w' hh => ?_
            obtain ⟨F', A1, d1, he, hB, ht, ho⟩ := hh
            rw [hp1l.1, hp1l.2] at he
            have carry : ∀ (gz : Nat) (q0 q1 : Value), Vy W F p A gz q0 q1 → Vy w' F' p1 A1 gz q0 q1 := fun gz q0 q1 hz => ⟨hz.b.turns ht hz.n, not_foot11 ht hz.b.lt hz.n, fun h0 ad e => by
              rcases ho ad e with h2 | h2
              · exact hz.a (by have := HV.out.1.1; have := hp1l.1; omega) ad h2
              · have := hz.b.lt; omega⟩
            exact ⟨F', A1, d1, he, ⟨hB, carry _ _ _ h.x, h.hx⟩, carry _ _ _ hY⟩
          have HD : Hid (∀ (W : World), Vx w W g F p gx (.int .i64 lo) (.slice A n c) A c → Calls Tryd.prog 10 #[.pointer (some ⟨g, 0, none⟩), .agg #[.int .i64 lo, .slice A n c], .agg #[.int .i64 kd, .int .i64 nn, .slice dA dl dc]] W fun e w' => ∃ F' A1 d1, e = .returned (.tuple #[.agg #[.int .i64 lo, .slice A1 n d1], .bool true]) ∧ Vx w w' g F' p1 gx (.int .i64 lo) (.slice A n c) A1 d1) := fun W h => (HD2.out W gx _ _ h h.x).mono fun e w' hh => by
            obtain ⟨F', A1, d1, he, h1, _⟩ := hh
            exact ⟨F', A1, d1, he, h1⟩
          have HS : Hid (∀ (W : World) {F' : Nat → Prop} {p' : Pl} {A1 : Option Addr} {d1 : Nat}, Vx w W g F' p' gx (.int .i64 lo) (.slice A n c) A1 d1 → W.rangeAt gx 0 [.int .i64 lo, .slice A n c] ∧ W.rangeAt b (off + i * 3) [.int .i64 kd, .int .i64 nn, .slice dA dl dc]) := fun W F' p' A1 d1 h => ⟨range_blk h.x.b, by
            have hb := h.bo.below
            rw [hkd, hnn, hdl]
            exact range_three ((hb.cell (p := ⟨b, off + i * 3, none⟩) hbb).trans k0) ((hb.cell (p := ⟨b, off + i * 3 + 1, none⟩) hbb).trans k1) ((hb.cell (p := ⟨b, off + i * 3 + 2, none⟩) hbb).trans k2)⟩
          have Hp1 := Lib.hid hp1l
          clear hcc hV k0 k1 k2 hkd hnn hdl hp1 hp1l hl30 hbb
          go_upto_region 10 with (fail)
          go_cut [12, 13] from 40 to 68 (fun s12 s13 wx => ∃ gy, s12 = .pointer (some ⟨gy, 0, none⟩) ∧ s13 = .bool true ∧ ∃ F' A1 d1, Hid (Vx w wx g F' p1 gx (.int .i64 lo) (.slice A n c) A1 d1 ∧ Vy wx F' p1 A1 gy (.int .i64 lo) (.slice A1 n d1)))
          case first =>
            have hV0 := HV.out.2.more (Below.refl _ _).drew
            have hS0 := HS.out _ hV0
            refine region_T (fun V => V.rangeAt gx 0 [.int .i64 lo, .slice A n c] ∧ V.rangeAt b (off + i * 3) [.int .i64 kd, .int .i64 nn, .slice dA dl dc]) (fun k => decide (12 ≤ k)) (by kernel_rfl) ?_
            refine any_asT rfl (listed' := #[false, false, false, false, false, false, false, false, false, false, false, false, false]) (by kernel_rfl) ?_
            refine take_d (i := 0) (.pointer (some ⟨g, 0, none⟩)) 51 rfl (by kernel_rfl) (by kernel_rfl) (by kernel_rfl) (by kernel_rfl) rfl (by kernel_rfl) (by kernel_rfl) (fun V hV => by kernel_rfl) hS0 (fun _ _ _ h => h) ?_
            simp only [Act.put, List.setIfInBounds_toArray, List.set_cons_zero, List.set_cons_succ]
            refine take_d (i := 1) (.agg #[.int .i64 lo, .slice A n c]) 52 rfl (by kernel_rfl) (by kernel_rfl) (by kernel_rfl) (by kernel_rfl) rfl (by kernel_rfl) (by kernel_rfl) (fun V hV => load_run 29 (.tmp 9) gx 0 [.int .i64 lo, .slice A n c] _ (by kernel_rfl) (by kernel_rfl) hV.1 Tryd.underlying29 rfl (by kernel_rfl) _ rfl) hS0 (fun _ _ _ h => h) ?_
            simp only [Act.put, List.setIfInBounds_toArray, List.set_cons_zero, List.set_cons_succ]
            refine take_d (i := 2) (.slice (some ⟨b, off, none⟩) m cA) 53 rfl (by kernel_rfl) (by kernel_rfl) (by kernel_rfl) (by kernel_rfl) rfl (by kernel_rfl) (by kernel_rfl) (fun V hV => by kernel_rfl) hS0 (fun _ _ _ h => h) ?_
            simp only [Act.put, List.setIfInBounds_toArray, List.set_cons_zero, List.set_cons_succ]
            refine take_d (i := 3) (.int .i64 (i : Int)) 54 rfl (by kernel_rfl) (by kernel_rfl) (by kernel_rfl) (by kernel_rfl) rfl (by kernel_rfl) (by kernel_rfl) (fun V hV => by kernel_rfl) hS0 (fun _ _ _ h => h) ?_
            simp only [Act.put, List.setIfInBounds_toArray, List.set_cons_zero, List.set_cons_succ]
            refine take_d (i := 4) (.pointer (some ⟨b, off + i * 3, none⟩)) 55 rfl (by kernel_rfl) (by kernel_rfl) (by kernel_rfl) (by kernel_rfl) rfl (by kernel_rfl) (by kernel_rfl) (fun V hV => didx_run b off m cA i (.tmp 53) (.tmp 54) (by kernel_rfl) (by kernel_rfl) (by kernel_rfl) hlt) hS0 (fun _ _ _ h => h) ?_
            simp only [Act.put, List.setIfInBounds_toArray, List.set_cons_zero, List.set_cons_succ]
            refine take_d (i := 5) (.agg #[.int .i64 kd, .int .i64 nn, .slice dA dl dc]) 56 rfl (by kernel_rfl) (by kernel_rfl) (by kernel_rfl) (by kernel_rfl) rfl (by kernel_rfl) (by kernel_rfl) (fun V hV => load_run 38 (.tmp 55) b (off + i * 3) [.int .i64 kd, .int .i64 nn, .slice dA dl dc] _ (by kernel_rfl) (by kernel_rfl) hV.2 Tryd.underlying38 rfl (by kernel_rfl) _ rfl) hS0 (fun _ _ _ h => h) ?_
            simp only [Act.put, List.setIfInBounds_toArray, List.set_cons_zero, List.set_cons_succ]
            refine any_twoT (i := 6) (j := 10) (by kernel_rfl) ?_ ?_
            · refine op_enter 10 #[.pointer (some ⟨g, 0, none⟩), .agg #[.int .i64 lo, .slice A n c], .agg #[.int .i64 kd, .int .i64 nn, .slice dA dl dc]] (some 57) rfl (by kernel_rfl) (by kernel_rfl) (by kernel_rfl) ((HD.out _ hV0).mono ?_)
              rintro e w5 ⟨F5, A1, d1, rfl, hV5⟩
              have hS1 := HS.out _ hV5
              refine ⟨_, rfl, hS1, ?_⟩
              simp only [Act.put, List.setIfInBounds_toArray, List.set_cons_zero, List.set_cons_succ]
              refine take_d (i := 7) (.tuple #[.agg #[.int .i64 lo, .slice A1 n d1], .bool true]) 50 rfl (by kernel_rfl) (by kernel_rfl) (by kernel_rfl) (by kernel_rfl) rfl (by kernel_rfl) (by kernel_rfl) (fun V hV => by kernel_rfl) hS1 (fun _ _ _ h => h) ?_
              simp only [Act.put, List.setIfInBounds_toArray, List.set_cons_zero, List.set_cons_succ]
              refine take_d (i := 8) (.agg #[.int .i64 lo, .slice A1 n d1]) 58 rfl (by kernel_rfl) (by kernel_rfl) (by kernel_rfl) (by kernel_rfl) rfl (by kernel_rfl) (by kernel_rfl) (fun V hV => by kernel_rfl) hS1 (fun _ _ _ h => h) ?_
              simp only [Act.put, List.setIfInBounds_toArray, List.set_cons_zero, List.set_cons_succ]
              refine take_d (i := 9) (.bool true) 59 rfl (by kernel_rfl) (by kernel_rfl) (by kernel_rfl) (by kernel_rfl) rfl (by kernel_rfl) (by kernel_rfl) (fun V hV => by kernel_rfl) hS1 (fun _ _ _ h => h) ?_
              simp only [Act.put, List.setIfInBounds_toArray, List.set_cons_zero, List.set_cons_succ]
              have hV6 := hV5.alloc (.cells #[.int .i64 0, .slice none 0 0] 29)
              have hYb := hV5.fresh (.inr trivial) (Blk.new w5 29 #[.int .i64 0, .slice none 0 0])
              have hS2 := HS.out _ hV6
              have hgl := hV5.x.b.lt
              refine any_comes (i := 10) (by kernel_rfl) (op_value (.pointer (some ⟨w5.heap.size, 0, none⟩)) rfl (by kernel_rfl) (w' := w5.alloc (.cells #[.int .i64 0, .slice none 0 0] 29)) (by kernel_rfl) rfl ⟨hS2, ?_⟩)
              simp only [Act.put, List.setIfInBounds_toArray, List.set_cons_zero, List.set_cons_succ]
              have hV7 := hV6.store (u := .int .i64 lo) (v := .slice A1 n d1) hYb (by omega) (Nat.le_trans hV5.hx (Nat.le_of_lt hgl))
              have hS3 := HS.out _ hV7.1
              refine any_comes (i := 11) (by kernel_rfl) (op_store2 w5.heap.size lo A1 n d1 (.tmp 12) (.tmp 58) rfl (by kernel_rfl) (by kernel_rfl) rfl (by kernel_rfl) (by kernel_rfl) hYb.b ⟨hS3, ?_⟩)
              refine any_left (by kernel_rfl) ?_
              refine wpAny_tail 12 (by kernel_rfl) (by kernel_rfl) ?_
              have HV7 : Hid (Vx w (w5.alloc (.cells #[.int .i64 lo, .slice A1 n d1] 29)) g F5 p1 gx (.int .i64 lo) (.slice A n c) A1 d1 ∧ Vy (w5.alloc (.cells #[.int .i64 lo, .slice A1 n d1] 29)) F5 p1 A1 w5.heap.size (.int .i64 lo) (.slice A1 n d1)) := ⟨hV5.alloc _, hV5.fresh (.inr trivial) (Blk.new w5 _ _)⟩
              clear hV7 hV6 hV5 hV0 hS0 hS1 hS2 hS3 hYb
              go_wp2_with (fail)
              go_meet
              exact ⟨_, rfl, rfl, F5, A1, d1, HV7.out⟩
            · have hVa := hV0.alloc (.cells #[.int .i64 0, .slice none 0 0] 29)
              have hSa := HS.out _ hVa
              have hgl : gx < wr.heap.size := hV0.x.b.lt
              have hwl : w.heap.size ≤ wr.heap.size := Nat.le_trans hV0.hx (Nat.le_of_lt hgl)
              refine op_value (.pointer (some ⟨wr.heap.size, 0, none⟩)) rfl (by kernel_rfl) (w' := World.alloc wr.drew (.cells #[.int .i64 0, .slice none 0 0] 29)) (by kernel_rfl) rfl ⟨hSa, ?_⟩
              simp only [Act.put, List.setIfInBounds_toArray, List.set_cons_zero, List.set_cons_succ]
              refine any_comes (i := 6) (by kernel_rfl) ?_
              refine op_enter 10 #[.pointer (some ⟨g, 0, none⟩), .agg #[.int .i64 lo, .slice A n c], .agg #[.int .i64 kd, .int .i64 nn, .slice dA dl dc]] (some 57) rfl (by kernel_rfl) (by kernel_rfl) (by kernel_rfl) ((HD2.out _ wr.heap.size _ _ hVa (hV0.fresh (.inr trivial) (Blk.new wr.drew 29 #[.int .i64 0, .slice none 0 0]))).mono ?_)
              rintro e w5 ⟨F5, A1, d1, rfl, hV5, hYb⟩
              have hS1 := HS.out _ hV5
              refine ⟨_, rfl, hS1, ?_⟩
              simp only [Act.put, List.setIfInBounds_toArray, List.set_cons_zero, List.set_cons_succ]
              refine take_d (i := 7) (.tuple #[.agg #[.int .i64 lo, .slice A1 n d1], .bool true]) 50 rfl (by kernel_rfl) (by kernel_rfl) (by kernel_rfl) (by kernel_rfl) rfl (by kernel_rfl) (by kernel_rfl) (fun V hV => by kernel_rfl) hS1 (fun _ _ _ h => h) ?_
              simp only [Act.put, List.setIfInBounds_toArray, List.set_cons_zero, List.set_cons_succ]
              refine take_d (i := 8) (.agg #[.int .i64 lo, .slice A1 n d1]) 58 rfl (by kernel_rfl) (by kernel_rfl) (by kernel_rfl) (by kernel_rfl) rfl (by kernel_rfl) (by kernel_rfl) (fun V hV => by kernel_rfl) hS1 (fun _ _ _ h => h) ?_
              simp only [Act.put, List.setIfInBounds_toArray, List.set_cons_zero, List.set_cons_succ]
              refine take_d (i := 9) (.bool true) 59 rfl (by kernel_rfl) (by kernel_rfl) (by kernel_rfl) (by kernel_rfl) rfl (by kernel_rfl) (by kernel_rfl) (fun V hV => by kernel_rfl) hS1 (fun _ _ _ h => h) ?_
              simp only [Act.put, List.setIfInBounds_toArray, List.set_cons_zero, List.set_cons_succ]
              have hV7 := hV5.store (u := .int .i64 lo) (v := .slice A1 n d1) hYb (by omega) hwl
              have hS3 := HS.out _ hV7.1
              refine any_comes (i := 11) (by kernel_rfl) (op_store2 wr.heap.size lo A1 n d1 (.tmp 12) (.tmp 58) rfl (by kernel_rfl) (by kernel_rfl) rfl (by kernel_rfl) (by kernel_rfl) hYb.b ⟨hS3, ?_⟩)
              refine any_left (by kernel_rfl) ?_
              refine wpAny_tail 12 (by kernel_rfl) (by kernel_rfl) ?_
              have HV7 := Lib.hid hV7
              clear hV7 hVa hV5 hV0 hS0 hS1 hS3 hYb hSa
              go_wp2_with (fail)
              go_meet
              exact ⟨_, rfl, rfl, F5, A1, d1, HV7.out⟩
          case rest =>
            obtain ⟨gy, rfl, rfl, F1, A1, d1, HX⟩ := hcut
            have hX := HX.out.1
            have hY := HX.out.2
            have c0 := hX.x.b.cell 0
            have c1 := hX.x.b.cell 1
            have e0 : wc.cell? ⟨gx, 0, none⟩ = some (.int .i64 lo) := c0
            have e1 : wc.cell? ⟨gx, 1, none⟩ = some (.slice A n c) := c1
            have f0 := hX.x.b.frozen 0
            have f1 := hX.x.b.frozen 1
            have e2 : wc.cell? ⟨gy, 0, none⟩ = some (.int .i64 lo) := hY.b.cell 0
            have e3 : wc.cell? ⟨gy, 1, none⟩ = some (.slice A1 n d1) := hY.b.cell 1
            have hP := hX.put (u := .int .i64 lo) (v := .slice A1 n d1)
            have r0 : ((wc.setCell ⟨gx, 0, none⟩ (.int .i64 lo)).setCell ⟨gx, 1, none⟩ (.slice A1 n d1)).cell? ⟨gx, 0, none⟩ = some (.int .i64 lo) := hP.x.b.cell 0
            have r1 : ((wc.setCell ⟨gx, 0, none⟩ (.int .i64 lo)).setCell ⟨gx, 1, none⟩ (.slice A1 n d1)).cell? ⟨gx, 1, none⟩ = some (.slice A1 n d1) := hP.x.b.cell 1
            have HPx := Lib.hid hP
            clear hX hY c0 c1 hP
            go_wp2_with (go_at_call 11; have hx := HAl.out _ _ _ _ _ _ _ _ _ HPx.out Hp1.out; (with_reducible refine hx.mono ?_); clear hx; rintro e w9 ⟨rfl, b9⟩)
            go_roundw
            case rel => exact ⟨i + 1, by omega, by go_num, p1, F1, A1, d1, Hp1.out, HPx.out.more b9⟩
            case measure => simp [intOf]; omega
        · have d0 : decide ((i : Int) < (m : Int)) = false := decide_eq_false (by omega)
          have d1 : decide (i < m) = false := decide_eq_false hlt
          have hb := HV.out.2.bo.below
          go_wp2_with (go_at_call 9; (with_reducible refine (HAw.out _ hb).mono ?_); rintro e w6 ⟨rfl, b6⟩)
          go_ret
          exact ⟨rfl, hb.trans (b6.mono hb.size)⟩
set_option maxRecDepth 100000 in
theorem pooldoes_lifted (os : Os) (started : os.Started) (H : Type) (enc : TypeId × Value → H) :
    ReturnsInHanded {} Tryd.checked os 3 .any (fun w args => (Rows.poolDoesSpec.pre enc Tryd.prog Tryd.f3 [] false w args ∧ laidMetH Tryd.prog laidZ w) ∧ sizedMet enc Tryd.prog Tryd.f3 (OpenSpec.ofChange Rows.poolDoesSpec) false w args) (Rows.poolDoesSpec.post enc Tryd.prog Tryd.f3 false true false false) := by
  refine returnsInHanded_of_change_and (C := Tryd.checked) (X := fun w _ => laidMetH Tryd.prog laidZ w) (fun _ _ _ hh h => h.of_heap hh) Tryd.own started (by kernel_rfl) Tryd.func3
    (ChangeSpec.witness_shaped (enc := enc) (C := Tryd.checked) (os := os) (X := fun w _ => laidMetH Tryd.prog laidZ w) false (World.doorLaid Tryd.prog 400 os) #[.int .i64 0, .int .i64 0, .slice none 0 0] 8 rfl (World.shaped_of_RefB (by kernel_rfl) (by kernel_rfl)) (by kernel_rfl) (by kernel_rfl) (by kernel_rfl) (doorZ_met os _)) ?_
  intro W base args ds gs before hval0 hW hcnd hsz0 hLd _
  have hval : ∀ (j : Nat) t v, Tryd.f3.params[j]? = some t → args[j]? = some v → Value.okWide Tryd.prog W .any base t v := hval0
  have hW' : DataW.Whole enc Tryd.prog Tryd.f3.params.toList Rows.poolDoesSpec.vars false W args.toList ds gs before := hW
  have hWk := hW'
  clear hsz0 hval0
  obtain ⟨p, q, hA, hV, rfl, hfz, hnd⟩ := hW'
  rw [Tryd.params3] at hA hval
  obtain ⟨v0, v1, v2, d0, d1, d2, p0, p1, p2, rfl, rfl, rfl, h0, h1, h2⟩ := trodAll_three hA
  obtain ⟨rfl, rfl⟩ := trodVars_none hV
  obtain ⟨za, rfl, rfl, rfl, wa⟩ := open_int Tryd.underlying3 (hval 0 3 v0 rfl rfl) h0
  obtain ⟨zb, rfl, rfl, rfl, wb⟩ := open_int Tryd.underlying3 (hval 1 3 v1 rfl rfl) h1
  obtain ⟨A, D, c, rfl, hD, _, _⟩ := open_dpl (hval 2 22 v2 rfl rfl) h2
  refine (pooldoes_any za zb D A _ c W hD rfl (tz_of_laid hLd)).mono fun e W' ⟨he, hb⟩ => ⟨_, he, ?_⟩
  exact law_post Tryd.laidOut hWk rfl rfl rfl rfl rfl Tryd.underlying4 (by kernel_rfl) hb
theorem pooldoes_said : Rows.PoolDoesSaid :=
  OpenClaim.holds_of_wide 3 Tryd.f3 rfl rfl rfl rfl rfl rfl rfl ⟨rfl, rfl, rfl, rfl, rfl⟩ rfl rfl rfl rfl rfl (by kernel_rfl) Tryd.func3 (by kernel_rfl)
    (of_decide_eq_true (by kernel_rfl)) (by unfold Func.isWrapper; first | (rw [if_pos (by decide +kernel)]; kernel_rfl) | (rw [if_neg (by decide +kernel)]; exact ⟨rfl, rfl⟩))
    (fun os started H enc _ => pooldoes_lifted os started H enc)
theorem pooldoes_holds : Rows.PoolDoesCardSaid :=
  Claim7.holds_tied_plain_at .later [] [.data] true Rows.poolDoesCard.stood.harness false
    pooldoes_said (fun _ h => by cases h) (by kernel_rfl) (fun _ h => by cases h) poolDoes_row_tie rfl ⟨rfl, rfl⟩ (by kernel_rfl) rfl
    (fun f fn hf hfn => by
      obtain rfl : f = 3 := Option.some.inj ((show Tryd.prog.funcNamed "chantry/chantrylaw11.PoolDoes" = some 3 by kernel_rfl).symm.trans hf) |>.symm
      obtain rfl : fn = Tryd.f3 := (Option.some.inj (Tryd.func3.symm.trans hfn)).symm
      exact ⟨by kernel_rfl, fun j t ht => by
        rw [Tryd.params3] at ht
        have hm : t ∈ [3, 3, 22] := by simpa using Array.mem_of_getElem? ht
        have hall : ([3, 3, 22].all fun u => !Tryd.prog.wantsStandIn u) = true := by kernel_rfl
        exact (show Tryd.prog.wantsStandIn t = false by simpa using List.all_eq_true.1 hall t hm)⟩)
    (by kernel_rfl)
end Go.Proofs.YtibaaideleinhaaDoor
