/- Lemmas under the proofs of this place: UpPutsA, UpGetsA, UpOneA. No statement is proved here. -/
import Derived.Test.YtinphkflfdpaeaaDoorBu42
import Derived.Test.YtinphkflfdpaeaaDoorBu35
import Derived.Test.YtinphkflfdpaeaaDoorBu38
import Derived.Test.YtinphkflfdpaeaaDoorBu36
import Derived.Test.YtinphkflfdpaeaaDoorBu32
import Derived.Test.YtinphkflfdpaeaaDoorBu39
import Derived.Test.YtinphkflfdpaeaaDoorBu31
import Derived.Deep.RegionHeldLaw
set_option linter.unusedSimpArgs false
set_option linter.unusedVariables false
set_option maxRecDepth 100000
set_option maxHeartbeats 16000000
namespace Go.Proofs.YtinphkflfdpaeaaDoor
section
open Go.RowKit
structure PuV (w W : World) (R0 R1 v9 v11 v13 : Nat) (C0 C1 C9 : Array Value) (id : ByteArray) (A5 A7 A11 A13 : Option Addr) (p c11 c13 : Nat) (P : List UInt8) (X : Option Addr) (lg : List Bs) : Prop where
  s : OnS w W R0 R1 C0 C1
  u9 : Blk W v9 26 C9
  i11 : Blk W v11 36 #[.string id, .slice A11 p c11]
  i13 : Blk W v13 36 #[.string id, .slice A13 p c13]
  r5 : RB W W.heap.size A5 P
  r7 : RB W W.heap.size A7 P
  r11 : RB W W.heap.size A11 P
  r13 : RB W W.heap.size A13 P
  sx : SS W W.heap.size X lg
theorem PuV.up {w W W' : World} {R0 R1 v9 v11 v13 : Nat} {C0 C1 C9 : Array Value} {id : ByteArray} {A5 A7 A11 A13 : Option Addr} {p c11 c13 : Nat} {P : List UInt8} {X : Option Addr} {lg : List Bs} (h : PuV w W R0 R1 v9 v11 v13 C0 C1 C9 id A5 A7 A11 A13 p c11 c13 P X lg) (hb : Below W.heap.size W W') : PuV w W' R0 R1 v9 v11 v13 C0 C1 C9 id A5 A7 A11 A13 p c11 c13 P X lg :=
  ⟨h.s.up hb, blkUpA h.u9 hb, blkUpA h.i11 hb, blkUpA h.i13 hb, rb_up7 h.r5 hb, rb_up7 h.r7 hb, rb_up7 h.r11 hb, rb_up7 h.r13 hb, ssUpO h.sx hb⟩
theorem PuV.held {w W : World} {R0 R1 v9 v11 v13 : Nat} {a a' ag k k' kg z z' zg : Int} {A C X : Option Addr} {n c m d ng cg : Nat} {t1 t2 t3 t1' t2' t3' g1 g2 g3 : ByteArray} {id : ByteArray} {A5 A7 A11 A13 : Option Addr} {p c11 c13 : Nat} {P : List UInt8} {lg : List Bs} (c5 c7 : Nat) (sp : ByteArray) (hp : p = P.length) (hsp : ({ data := P.toArray } : ByteArray) = sp) (h : PuV w W R0 R1 v9 v11 v13 (#[.int .i64 a, .slice A n c, .int .i64 k, .string t1, .string t2, .int .i64 z, .string t3]) (#[.int .i64 a', .slice C m d, .int .i64 k', .string t1', .string t2', .int .i64 z', .string t3']) (#[.int .i64 ag, .slice X ng cg, .int .i64 kg, .string g1, .string g2, .int .i64 zg, .string g3]) id A5 A7 A11 A13 p c11 c13 P X lg) : W.cell? ⟨R0, 0, none⟩ = some (.int .i64 a) ∧ W.cell? ⟨R0, 1, none⟩ = some (.slice A n c) ∧ W.cell? ⟨R0, 2, none⟩ = some (.int .i64 k) ∧ W.cell? ⟨R0, 3, none⟩ = some (.string t1) ∧ W.cell? ⟨R0, 4, none⟩ = some (.string t2) ∧ W.cell? ⟨R0, 5, none⟩ = some (.int .i64 z) ∧ W.cell? ⟨R0, 6, none⟩ = some (.string t3) ∧ W.cell? ⟨R1, 0, none⟩ = some (.int .i64 a') ∧ W.cell? ⟨R1, 1, none⟩ = some (.slice C m d) ∧ W.cell? ⟨R1, 2, none⟩ = some (.int .i64 k') ∧ W.cell? ⟨R1, 3, none⟩ = some (.string t1') ∧ W.cell? ⟨R1, 4, none⟩ = some (.string t2') ∧ W.cell? ⟨R1, 5, none⟩ = some (.int .i64 z') ∧ W.cell? ⟨R1, 6, none⟩ = some (.string t3') ∧ W.cell? ⟨v9, 0, none⟩ = some (.int .i64 ag) ∧ W.cell? ⟨v9, 1, none⟩ = some (.slice X ng cg) ∧ W.cell? ⟨v9, 2, none⟩ = some (.int .i64 kg) ∧ W.cell? ⟨v9, 3, none⟩ = some (.string g1) ∧ W.cell? ⟨v9, 4, none⟩ = some (.string g2) ∧ W.cell? ⟨v9, 5, none⟩ = some (.int .i64 zg) ∧ W.cell? ⟨v9, 6, none⟩ = some (.string g3) ∧ W.cell? ⟨v11, 0, none⟩ = some (.string id) ∧ W.cell? ⟨v11, 1, none⟩ = some (.slice A11 p c11) ∧ W.cell? ⟨v13, 0, none⟩ = some (.string id) ∧ W.cell? ⟨v13, 1, none⟩ = some (.slice A13 p c13) ∧ (convert 29 9 (.slice A5 p c5)).run Tryd.prog W = .ok (.string sp) W ∧ (convert 29 9 (.slice A7 p c7)).run Tryd.prog W = .ok (.string sp) W ∧ (convert 29 9 (.slice A11 p c11)).run Tryd.prog W = .ok (.string sp) W ∧ (convert 29 9 (.slice A13 p c13)).run Tryd.prog W = .ok (.string sp) W := by
  obtain ⟨p0, p1, p2, p3, p4, p5, p6, q0, q1, q2, q3, q4, q5, q6⟩ := OnS.held h.s
  obtain ⟨x0, x1, x2, x3, x4, x5, x6⟩ := blk7A h.u9
  obtain ⟨d0, d1⟩ := blk2A h.i11
  obtain ⟨e0, e1⟩ := blk2A h.i13
  subst hsp
  exact ⟨p0, p1, p2, p3, p4, p5, p6, q0, q1, q2, q3, q4, q5, q6, x0, x1, x2, x3, x4, x5, x6, d0, d1, e0, e1, aw_str h.r5 p c5 hp, aw_str h.r7 p c7 hp, aw_str h.r11 p c11 hp, aw_str h.r13 p c13 hp⟩
theorem upd_out_get (u : Upd) : ∃ r, GetsU u.out r ∧ ((u.check = 0 ∧ r = some u) ∨ (u.check ≠ 0 ∧ r = none ∧ u.out = [])) := by
  by_cases h : u.check = 0
  · exact ⟨some u, ⟨Upd.check_ok.1 h, (if_pos h : u.out = u.bytes).symm⟩, .inl ⟨h, rfl⟩⟩
  · have e : u.out = [] := if_neg h
    exact ⟨none, by rw [e]; intro v hv e2; simp [Upd.bytes] at e2, .inr ⟨h, rfl, e⟩⟩
theorem upd_check_two (u : Upd) : u.check = 0 ∨ u.check = 1 ∨ u.check = 4 := by
  unfold Upd.check
  split
  · exact .inr (.inl rfl)
  · split
    · exact .inr (.inr rfl)
    · split
      · exact .inl rfl
      · exact .inr (.inl rfl)
theorem ieql_runU {o : Oper} {a : Act} {W : World} (x y : Operand) (v : Int) (ho : o.op = .binOp .eql 30 x y 30) (hx : a.eval x = .int .i64 v) (hy : a.eval y = .int .i64 v) : (execOp a.eval o).run Tryd.prog W = .ok (.value (.bool true)) W := by
  have hv : (binOp .eql 30 (.int .i64 v) (.int .i64 v)).run Tryd.prog W = .ok (.bool true) W := by simp [go_sem]
  have hg : (eqGuard .eql 30 x y (.int .i64 v) (.int .i64 v)).run Tryd.prog W = .ok () W := by unfold eqGuard; rfl
  unfold execOp
  simp only [ho, hx, hy, Sem.run_bind, hg, Result.andThen_ok, hv, Sem.run_pure]
theorem ineq_runU {o : Oper} {a : Act} {W : World} (x y : Operand) (v u : Int) (h : v ≠ u) (ho : o.op = .binOp .neq 30 x y 30) (hx : a.eval x = .int .i64 v) (hy : a.eval y = .int .i64 u) : (execOp a.eval o).run Tryd.prog W = .ok (.value (.bool true)) W := by
  have hv : (binOp .neq 30 (.int .i64 v) (.int .i64 u)).run Tryd.prog W = .ok (.bool true) W := by simp [go_sem, h]
  have hg : (eqGuard .neq 30 x y (.int .i64 v) (.int .i64 u)).run Tryd.prog W = .ok () W := by unfold eqGuard; rfl
  unfold execOp
  simp only [ho, hx, hy, Sem.run_bind, hg, Result.andThen_ok, hv, Sem.run_pure]
theorem ileq_runU {o : Oper} {a : Act} {W : World} (x y : Operand) (v u : Int) (h : v ≤ u) (ho : o.op = .binOp .leq 3 x y 3) (hx : a.eval x = .int .i64 v) (hy : a.eval y = .int .i64 u) : (execOp a.eval o).run Tryd.prog W = .ok (.value (.bool true)) W := by
  have hv : (binOp .leq 3 (.int .i64 v) (.int .i64 u)).run Tryd.prog W = .ok (.bool true) W := by simp [go_sem, h]
  have hg : (eqGuard .leq 3 x y (.int .i64 v) (.int .i64 u)).run Tryd.prog W = .ok () W := by unfold eqGuard; rfl
  unfold execOp
  simp only [ho, hx, hy, Sem.run_bind, hg, Result.andThen_ok, hv, Sem.run_pure]
theorem upputs_any (u v : Upd) (A C : Option Addr) (c d : Nat) (w : World) (hT : Tab w) (hr : SS w w.heap.size A u.preds) (hs : SS w w.heap.size C v.preds) (hc : u.preds.length ≤ c) (hcm : c ≤ 9223372036854775807) (hd : v.preds.length ≤ d) (hdm : d ≤ 9223372036854775807) :
    Calls Tryd.prog 3 #[updV u A c, updV v C d] w fun e w' => e = .returned (.bool true) ∧ Below w.heap.size w w' := by
  have HAw : Hid (∀ W, Below w.heap.size w W → Calls Tryd.prog 7 #[] W fun e w' => e = .returned (.bool true) ∧ Below W.heap.size W w') := fun W hb => awake15_any W (Tab.below hT hb)
  have HL0 : Hid (∀ W, Below w.heap.size w W → Calls Tryd.prog 6 #[updV u A c] W fun e w' => e = .returned (.bool u.big) ∧ Below W.heap.size W w') := fun W hb => uplarge_any u A c _ W (ssUpO hr hb) (Nat.le_refl _)
  have HL1 : Hid (∀ W, Below w.heap.size w W → Calls Tryd.prog 6 #[updV v C d] W fun e w' => e = .returned (.bool v.big) ∧ Below W.heap.size W w') := fun W hb => uplarge_any v C d _ W (ssUpO hs hb) (Nat.le_refl _)
  obtain ⟨r, hr0, hr1⟩ := upd_out_get u
  obtain ⟨P, hP⟩ : ∃ x, x = u.out := ⟨_, rfl⟩
  have hPl : P.length ≤ 354 := by rw [hP]; exact Upd.out_len u
  obtain ⟨y, hy⟩ : ∃ x, x = u.check := ⟨_, rfl⟩
  obtain ⟨uv, huv⟩ : ∃ x, x = decide (u = v) := ⟨_, rfl⟩
  obtain ⟨gu, hgu⟩ : ∃ x, x = r.getD Upd.zero := ⟨_, rfl⟩
  obtain ⟨yg, hyg⟩ : ∃ x, x = errGU P r := ⟨_, rfl⟩
  obtain ⟨id, hid⟩ : ∃ x, x = text u.idw := ⟨_, rfl⟩
  obtain ⟨p, hp⟩ : ∃ x, x = P.length := ⟨_, rfl⟩
  have hcase : (y = 0 ∧ gu = u ∧ yg = 0) ∨ ((y = 1 ∨ y = 4) ∧ P = [] ∧ p = 0) := by
    have h2 := upd_check_two u
    rw [← hy] at h2 hr1
    rcases hr1 with ⟨h3, h4⟩ | ⟨h3, h4, h5⟩
    · left
      refine ⟨h3, by rw [hgu, h4]; rfl, ?_⟩
      rw [hyg, h4]
      unfold errGU
      rw [if_neg (by omega)]
      rfl
    · right
      have e : P = [] := hP.trans h5
      exact ⟨by omega, e, by rw [hp, e]; rfl⟩
  have HP0 : Hid (u.big = false → ∀ W, Below w.heap.size w W → Calls Tryd.prog 8 #[updV u A c] W fun e w' => ∃ X f, e = .returned (.tuple #[.slice X p f, .int .i64 y]) ∧ Hid (RB w' w'.heap.size X P) ∧ Hid (p ≤ f ∧ f ≤ 9223372036854775807) ∧ Hid (Below W.heap.size W w')) := fun h W hb => (upput_any u A c W (ssUpO hr hb) (by have := (big_small h).1; omega) hc hcm (by have := (big_small h).2.1; omega) (by have := (big_small h).2.2.1; omega)).mono fun e w' hh => by
    obtain ⟨X, f, q1, q2, q3⟩ := hh
    rw [← hP, ← hp, ← hy] at q1
    rw [← hP] at q2
    exact ⟨X, f, q1, own_rb q2.out, ⟨by rw [hp]; exact own_le q2.out, own_cap q2.out⟩, q3⟩
  have HP1 : Hid (u.big = false → ∀ W, Below w.heap.size w W → Calls Tryd.prog 9 #[updV u A c] W fun e w' => ∃ X f, e = .returned (.tuple #[.slice X p f, .int .i64 y]) ∧ Hid (RB w' w'.heap.size X P) ∧ Hid (Below W.heap.size W w')) := fun h W hb => (ruput_any u A c _ W (ssUpO hr hb) (Nat.le_refl _) (by have := (big_small h).1; omega) (by have := (big_small h).2.1; omega)).mono fun e w' hh => by
    obtain ⟨X, f, q1, q2, q3⟩ := hh
    rw [← hP, ← hp, ← hy] at q1
    rw [← hP] at q2
    exact ⟨X, f, q1, own_rb q2.out, q3⟩
  have HG0 : Hid (∀ (B : Option Addr) (f : Nat) (W : World), RB W W.heap.size B P → p ≤ f → f ≤ 9223372036854775807 → Calls Tryd.prog 10 #[.slice B p f] W fun e w' => ∃ X cg, e = .returned (.tuple #[updV gu X cg, .int .i64 yg]) ∧ Hid (SS w' w'.heap.size X gu.preds) ∧ Hid (Below W.heap.size W w')) := fun B f W q1 q2 q3 => (upget_known P r (by rw [hP]; exact hr0) p B f W hp q1 q2 q3 (by omega)).mono fun e w' hh => by
    obtain ⟨X, cg, h1, h2, h3, h4, h5⟩ := hh
    rw [← hgu, ← hyg] at h1
    rw [← hgu] at h2
    exact ⟨X, cg, h1, h2, h5⟩
  have HO0 : Hid (u.big = false → ∀ W, Below w.heap.size w W → Calls Tryd.prog 11 #[updV u A c] W fun e w' => ∃ X f, e = .returned (.tuple #[.agg #[.string id, .slice X p f], .int .i64 y]) ∧ Hid (RB w' w'.heap.size X P) ∧ Hid (Below W.heap.size W w')) := fun h W hb => (upof_any u A c W (Tab.below hT hb) (ssUpO hr hb) (by have := (big_small h).1; omega) hc hcm (by have := (big_small h).2.1; omega) (by have := (big_small h).2.2.1; omega)).mono fun e w' hh => by
    obtain ⟨X, f, q1, q2, q3⟩ := hh
    rw [← hP, ← hp, ← hy, ← hid] at q1
    rw [← hP] at q2
    exact ⟨X, f, q1, q2, q3⟩
  have HO1 : Hid (u.big = false → ∀ W, Below w.heap.size w W → Calls Tryd.prog 12 #[updV u A c] W fun e w' => ∃ X f, e = .returned (.tuple #[.agg #[.string id, .slice X p f], .int .i64 y]) ∧ Hid (RB w' w'.heap.size X P) ∧ Hid (Below W.heap.size W w')) := fun h W hb => (ruof_any u A c _ W (ssUpO hr hb) (Nat.le_refl _) (by have := (big_small h).1; omega) (by have := (big_small h).2.1; omega)).mono fun e w' hh => by
    obtain ⟨X, f, q1, q2, q3⟩ := hh
    rw [← hP, ← hp, ← hy, ← hid] at q1
    rw [← hP] at q2
    exact ⟨X, f, q1, q2, q3⟩
  have HC0 : Hid (u.big = false → ∀ W, Below w.heap.size w W → Calls Tryd.prog 13 #[updV u A c] W fun e w' => e = .returned (.int .i64 y) ∧ Below W.heap.size W w') := fun h W hb => by
    rw [hy]
    exact upcheck_any u A c W (ssUpO hr hb) (by have := (big_small h).1; omega) hc hcm (by have := (big_small h).2.1; omega) (by have := (big_small h).2.2.1; omega)
  have HS0 : Hid (u.big = false → v.big = false → ∀ W, Below w.heap.size w W → Calls Tryd.prog 15 #[updV u A c, updV v C d] W fun e w' => e = .returned (.bool uv) ∧ Below W.heap.size W w') := fun h1 h2 W hb => by
    rw [huv]
    exact upsame_any u v A C c d W (ssUpO hr hb) (ssUpO hs hb) (by have := (big_small h1).1; omega) (by have := (big_small h2).1; omega) hc hcm hd hdm
  have HS1 : Hid (u.big = false → v.big = false → ∀ W, Below w.heap.size w W → Calls Tryd.prog 14 #[updV u A c, updV v C d] W fun e w' => e = .returned (.bool uv) ∧ Below W.heap.size W w') := fun h1 h2 W hb => by
    rw [huv]
    exact rusame_any u v A C c d _ W (ssUpO hr hb) (ssUpO hs hb) (Nat.le_refl _) (by have := (big_small h1).1; omega) (by have := (big_small h2).1; omega)
  have HS2 : Hid (u.big = false → gu = u → ∀ X cg W, Below w.heap.size w W → SS W W.heap.size X gu.preds → Calls Tryd.prog 14 #[updV u A c, updV gu X cg] W fun e w' => e = .returned (.bool true) ∧ Below W.heap.size W w') := fun h1 h2 X cg W hb hx => by
    have h := rusame_any u gu A X c cg _ W (ssUpO hr hb) hx (Nat.le_refl _) (by have := (big_small h1).1; omega) (by rw [h2]; have := (big_small h1).1; omega)
    rw [decide_eq_true h2.symm] at h
    exact h
  obtain ⟨la, hla⟩ : ∃ x, x = u.big := ⟨_, rfl⟩
  obtain ⟨lb, hlb⟩ : ∃ x, x = v.big := ⟨_, rfl⟩
  rw [← hla] at HL0 HP0 HP1 HO0 HO1 HC0 HS0 HS1 HS2
  rw [← hlb] at HL1 HS0 HS1
  have HPl : Hid (p ≤ 354) := by rw [hp]; exact hPl
  have HPp := Lib.hid hp
  obtain ⟨lg, hlg⟩ : ∃ x, x = gu.preds := ⟨_, rfl⟩
  have hcase2 : (y = 0 ∧ yg = 0 ∧ ∀ X cg W, la = false → Below w.heap.size w W → SS W W.heap.size X lg → Calls Tryd.prog 14 #[updV u A c, updV gu X cg] W fun e w' => e = .returned (.bool true) ∧ Below W.heap.size W w') ∨ ((y = 1 ∨ y = 4) ∧ P = [] ∧ p = 0) := by
    rcases hcase with ⟨h1, h2, h3⟩ | h
    · left
      exact ⟨h1, h3, fun X cg W h4 h5 h6 => HS2.out h4 h2 X cg W h5 (by rw [← hlg]; exact h6)⟩
    · exact .inr h
  rw [← hlg] at HG0
  clear hla hlb hP hPl hy huv hgu hyg hid hp hr0 hr1 hr hs hc hcm hd hdm hT hcase HS2 hlg
  obtain ⟨a, l, k, nm, tx, z, x⟩ := u
  obtain ⟨a', l', k', nm', tx', z', x'⟩ := v
  obtain ⟨ag, l'', kg, nm'', tx'', zg, x''⟩ := gu
  obtain ⟨t1, h1⟩ : ∃ t, t = text nm := ⟨_, rfl⟩
  obtain ⟨t2, h2⟩ : ∃ t, t = text tx := ⟨_, rfl⟩
  obtain ⟨t3, h3⟩ : ∃ t, t = text x := ⟨_, rfl⟩
  obtain ⟨n, hnn⟩ : ∃ n, n = l.length := ⟨_, rfl⟩
  obtain ⟨t1', h1'⟩ : ∃ t, t = text nm' := ⟨_, rfl⟩
  obtain ⟨t2', h2'⟩ : ∃ t, t = text tx' := ⟨_, rfl⟩
  obtain ⟨t3', h3'⟩ : ∃ t, t = text x' := ⟨_, rfl⟩
  obtain ⟨m, hmm⟩ : ∃ n, n = l'.length := ⟨_, rfl⟩
  obtain ⟨g1, h1''⟩ : ∃ t, t = text nm'' := ⟨_, rfl⟩
  obtain ⟨g2, h2''⟩ : ∃ t, t = text tx'' := ⟨_, rfl⟩
  obtain ⟨g3, h3''⟩ : ∃ t, t = text x'' := ⟨_, rfl⟩
  obtain ⟨ng, hng⟩ : ∃ n, n = l''.length := ⟨_, rfl⟩
  have eU : updV ⟨a, l, k, nm, tx, z, x⟩ A c = .agg #[.int .i64 a, .slice A n c, .int .i64 k, .string t1, .string t2, .int .i64 z, .string t3] := by rw [h1, h2, h3, hnn]; rfl
  have eV : updV ⟨a', l', k', nm', tx', z', x'⟩ C d = .agg #[.int .i64 a', .slice C m d, .int .i64 k', .string t1', .string t2', .int .i64 z', .string t3'] := by rw [h1', h2', h3', hmm]; rfl
  have eG : ∀ X cg, updV ⟨ag, l'', kg, nm'', tx'', zg, x''⟩ X cg = .agg #[.int .i64 ag, .slice X ng cg, .int .i64 kg, .string g1, .string g2, .int .i64 zg, .string g3] := fun X cg => by rw [h1'', h2'', h3'', hng]; rfl
  simp only [eU, eV, eG] at HL0 HL1 HP0 HP1 HG0 HO0 HO1 HC0 HS0 HS1 hcase2 ⊢
  clear eU eV eG h1 h2 h3 hnn h1' h2' h3' hmm h1'' h2'' h3'' hng
  have S0 : Hid (OnS w ((w.alloc (.cells #[.int .i64 a, .slice A n c, .int .i64 k, .string t1, .string t2, .int .i64 z, .string t3] 26)).alloc (.cells #[.int .i64 a', .slice C m d, .int .i64 k', .string t1', .string t2', .int .i64 z', .string t3'] 26)) w.heap.size (w.heap.size + 1) (#[.int .i64 a, .slice A n c, .int .i64 k, .string t1, .string t2, .int .i64 z, .string t3]) (#[.int .i64 a', .slice C m d, .int .i64 k', .string t1', .string t2', .int .i64 z', .string t3'])) := by
    have e0 : Below w.heap.size w (w.alloc (.cells #[.int .i64 a, .slice A n c, .int .i64 k, .string t1, .string t2, .int .i64 z, .string t3] 26)) := (Below.refl _ _).alloc (Nat.le_refl _) _
    have k1 := Blk.new (w.alloc (.cells #[.int .i64 a, .slice A n c, .int .i64 k, .string t1, .string t2, .int .i64 z, .string t3] 26)) 26 #[.int .i64 a', .slice C m d, .int .i64 k', .string t1', .string t2', .int .i64 z', .string t3']
    rw [show (w.alloc (.cells #[.int .i64 a, .slice A n c, .int .i64 k, .string t1, .string t2, .int .i64 z, .string t3] 26)).heap.size = w.heap.size + 1 by simp] at k1
    exact ⟨e0.alloc e0.size _, (Blk.new w _ _).alloc _, k1⟩
  obtain ⟨p0, p1, p2, p3, p4, p5, p6, q0, q1, q2, q3, q4, q5, q6⟩ := OnS.held S0.out
  have a26 := fun w' => Tryd.updAgg w'
  have s26 := fun w' => Tryd.updSize w'
  have a36 := fun w' => Tryd.itemAgg w'
  have s36 := fun w' => Tryd.itemSize w'
  cases la with
  | true =>
    go_enter Tryd.func3, Tryd.ntmps3
    go_wp2_with (first
      | (go_at_call 7; (with_reducible refine (HAw.out _ S1.out.below).mono ?_); rintro e x99 ⟨rfl, b99⟩; have S99 := Lib.hid (OnS.up S1.out b99))
      | (go_at_call 6; (with_reducible refine (HL0.out _ S0.out.below).mono ?_); rintro e x1 ⟨rfl, b1⟩; have S1 := Lib.hid (OnS.up S0.out b1); clear p0 p1 p2 p3 p4 p5 p6 q0 q1 q2 q3 q4 q5 q6; obtain ⟨p0, p1, p2, p3, p4, p5, p6, q0, q1, q2, q3, q4, q5, q6⟩ := OnS.held S1.out))
    (try go_ret)
    exact ⟨rfl, S99.out.below⟩
  | false =>
    cases lb with
    | true =>
      go_enter Tryd.func3, Tryd.ntmps3
      go_wp2_with (first
        | (go_at_call 7; (with_reducible refine (HAw.out _ S2.out.below).mono ?_); rintro e x99 ⟨rfl, b99⟩; have S99 := Lib.hid (OnS.up S2.out b99))
        | (go_at_call 6; (with_reducible refine (HL1.out _ S1.out.below).mono ?_); rintro e x2 ⟨rfl, b2⟩; have S2 := Lib.hid (OnS.up S1.out b2); clear p0 p1 p2 p3 p4 p5 p6 q0 q1 q2 q3 q4 q5 q6; obtain ⟨p0, p1, p2, p3, p4, p5, p6, q0, q1, q2, q3, q4, q5, q6⟩ := OnS.held S2.out)
        | (go_at_call 6; (with_reducible refine (HL0.out _ S0.out.below).mono ?_); rintro e x1 ⟨rfl, b1⟩; have S1 := Lib.hid (OnS.up S0.out b1); clear p0 p1 p2 p3 p4 p5 p6 q0 q1 q2 q3 q4 q5 q6; obtain ⟨p0, p1, p2, p3, p4, p5, p6, q0, q1, q2, q3, q4, q5, q6⟩ := OnS.held S1.out))
      (try go_ret)
      exact ⟨rfl, S99.out.below⟩
    | false =>
      have HP0n := Lib.hid (HP0.out rfl)
      have HP1n := Lib.hid (HP1.out rfl)
      have HO0n := Lib.hid (HO0.out rfl)
      have HO1n := Lib.hid (HO1.out rfl)
      have HC0n := Lib.hid (HC0.out rfl)
      have HS0n := Lib.hid (HS0.out rfl rfl)
      have HS1n := Lib.hid (HS1.out rfl rfl)
      clear HP0 HP1 HO0 HO1 HC0 HS0 HS1
      obtain ⟨sp, hsp⟩ : ∃ x : ByteArray, ({ data := P.toArray } : ByteArray) = x := ⟨_, rfl⟩
      have HSp := Lib.hid hsp
      clear hsp
      go_enter Tryd.func3, Tryd.ntmps3
      go_upto_region 8 with (first
        | (go_at_call 12; (with_reducible refine (HO1n.out _ S6.out.below).mono ?_); rintro e x7 ⟨A13, c13, rfl, r13, b7⟩; have S7 := Lib.hid (OnS.up (OnS.up S6.out b7.out) ((Below.refl _ _).alloc (Nat.le_refl _) (.cells #[.string id, .slice A13 p c13] 36))))
        | (go_at_call 11; (with_reducible refine (HO0n.out _ S5.out.below).mono ?_); rintro e x6 ⟨A11, c11, rfl, r11, b6⟩; have S6 := Lib.hid (OnS.up (OnS.up S5.out b6.out) ((Below.refl _ _).alloc (Nat.le_refl _) (.cells #[.string id, .slice A11 p c11] 36))); clear p0 p1 p2 p3 p4 p5 p6 q0 q1 q2 q3 q4 q5 q6; obtain ⟨p0, p1, p2, p3, p4, p5, p6, q0, q1, q2, q3, q4, q5, q6⟩ := OnS.held S6.out)
        | (go_at_call 10; (with_reducible refine (HG0.out A5 c5 _ r54.out cap5.out.1 cap5.out.2).mono ?_); rintro e x5 ⟨X, cg, rfl, ss5, b5⟩; have S5 := Lib.hid (OnS.up (OnS.up S4.out b5.out) ((Below.refl _ _).alloc (Nat.le_refl _) (.cells #[.int .i64 ag, .slice X ng cg, .int .i64 kg, .string g1, .string g2, .int .i64 zg, .string g3] 26))); clear p0 p1 p2 p3 p4 p5 p6 q0 q1 q2 q3 q4 q5 q6; obtain ⟨p0, p1, p2, p3, p4, p5, p6, q0, q1, q2, q3, q4, q5, q6⟩ := OnS.held S5.out)
        | (go_at_call 9; (with_reducible refine (HP1n.out _ S3.out.below).mono ?_); rintro e x4 ⟨A7, c7, rfl, r7, b4⟩; have S4 := Lib.hid (OnS.up S3.out b4.out); have r54 := Lib.hid (rb_up7 r5.out b4.out); clear p0 p1 p2 p3 p4 p5 p6 q0 q1 q2 q3 q4 q5 q6; obtain ⟨p0, p1, p2, p3, p4, p5, p6, q0, q1, q2, q3, q4, q5, q6⟩ := OnS.held S4.out)
        | (go_at_call 8; (with_reducible refine (HP0n.out _ S2.out.below).mono ?_); rintro e x3 ⟨A5, c5, rfl, r5, cap5, b3⟩; have S3 := Lib.hid (OnS.up S2.out b3.out); clear p0 p1 p2 p3 p4 p5 p6 q0 q1 q2 q3 q4 q5 q6; obtain ⟨p0, p1, p2, p3, p4, p5, p6, q0, q1, q2, q3, q4, q5, q6⟩ := OnS.held S3.out)
        | (go_at_call 6; (with_reducible refine (HL1.out _ S1.out.below).mono ?_); rintro e x2 ⟨rfl, b2⟩; have S2 := Lib.hid (OnS.up S1.out b2); clear p0 p1 p2 p3 p4 p5 p6 q0 q1 q2 q3 q4 q5 q6; obtain ⟨p0, p1, p2, p3, p4, p5, p6, q0, q1, q2, q3, q4, q5, q6⟩ := OnS.held S2.out)
        | (go_at_call 6; (with_reducible refine (HL0.out _ S0.out.below).mono ?_); rintro e x1 ⟨rfl, b1⟩; have S1 := Lib.hid (OnS.up S0.out b1); clear p0 p1 p2 p3 p4 p5 p6 q0 q1 q2 q3 q4 q5 q6; obtain ⟨p0, p1, p2, p3, p4, p5, p6, q0, q1, q2, q3, q4, q5, q6⟩ := OnS.held S1.out))
      have P7 : Hid (PuV w (x7.alloc (.cells #[.string id, .slice A13 p c13] 36)) w.heap.size (w.heap.size + 1) x5.heap.size x6.heap.size x7.heap.size (#[.int .i64 a, .slice A n c, .int .i64 k, .string t1, .string t2, .int .i64 z, .string t3]) (#[.int .i64 a', .slice C m d, .int .i64 k', .string t1', .string t2', .int .i64 z', .string t3']) (#[.int .i64 ag, .slice X ng cg, .int .i64 kg, .string g1, .string g2, .int .i64 zg, .string g3]) id A5 A7 A11 A13 p c11 c13 P X lg) := by
        have n5 : Below x5.heap.size x5 (x5.alloc (.cells #[.int .i64 ag, .slice X ng cg, .int .i64 kg, .string g1, .string g2, .int .i64 zg, .string g3] 26)) := (Below.refl _ _).alloc (Nat.le_refl _) _
        have n6 : Below x6.heap.size x6 (x6.alloc (.cells #[.string id, .slice A11 p c11] 36)) := (Below.refl _ _).alloc (Nat.le_refl _) _
        have n7 : Below x7.heap.size x7 (x7.alloc (.cells #[.string id, .slice A13 p c13] 36)) := (Below.refl _ _).alloc (Nat.le_refl _) _
        refine ⟨S7.out, blkUpA (blkUpA (blkUpA (blkUpA (Blk.new _ _ _) b6.out) n6) b7.out) n7, blkUpA (blkUpA (Blk.new _ _ _) b7.out) n7, Blk.new _ _ _, ?_, ?_, ?_, ?_, ?_⟩
        · exact rb_up7 (rb_up7 (rb_up7 (rb_up7 (rb_up7 (rb_up7 r54.out b5.out) n5) b6.out) n6) b7.out) n7
        · exact rb_up7 (rb_up7 (rb_up7 (rb_up7 (rb_up7 (rb_up7 r7.out b5.out) n5) b6.out) n6) b7.out) n7
        · exact rb_up7 (rb_up7 (rb_up7 r11.out n6) b7.out) n7
        · exact rb_up7 r13.out n7
        · exact ssUpO (ssUpO (ssUpO (ssUpO (ssUpO ss5.out n5) b6.out) n6) b7.out) n7
      obtain ⟨v9, hv9⟩ : ∃ x, x = x5.heap.size := ⟨_, rfl⟩
      obtain ⟨v11, hv11⟩ : ∃ x, x = x6.heap.size := ⟨_, rfl⟩
      obtain ⟨v13, hv13⟩ : ∃ x, x = x7.heap.size := ⟨_, rfl⟩
      obtain ⟨W7, hW7⟩ : ∃ x, x = x7.alloc (.cells #[.string id, .slice A13 p c13] 36) := ⟨_, rfl⟩
      obtain ⟨R0, hR0⟩ : ∃ x, x = w.heap.size := ⟨_, rfl⟩
      obtain ⟨R1, hR1⟩ : ∃ x, x = w.heap.size + 1 := ⟨_, rfl⟩
      rw [← hv9, ← hv11, ← hv13, ← hW7] at P7 ⊢
      have P7 : Hid (PuV w W7 R0 R1 v9 v11 v13 (#[.int .i64 a, .slice A n c, .int .i64 k, .string t1, .string t2, .int .i64 z, .string t3]) (#[.int .i64 a', .slice C m d, .int .i64 k', .string t1', .string t2', .int .i64 z', .string t3']) (#[.int .i64 ag, .slice X ng cg, .int .i64 kg, .string g1, .string g2, .int .i64 zg, .string g3]) id A5 A7 A11 A13 p c11 c13 P X lg) := by rw [hR0, hR1]; exact P7
      rw [← hR1, ← hR0]
      clear hv9 hv11 hv13 hW7 hR0 hR1 S0 S1 S2 S3 S4 S5 S6 S7 b1 b2 b3 b4 b5 b6 b7 r5 r54 r7 r11 r13 ss5 cap5 HL0 HL1 HP0n HP1n HG0 HO0n HO1n
      rcases hcase2 with ⟨rfl, rfl, hs2⟩ | ⟨hy, rfl, rfl⟩
      · have HS2 : Hid (∀ X cg W, Below w.heap.size w W → SS W W.heap.size X lg → Calls Tryd.prog 14 #[.agg #[.int .i64 a, .slice A n c, .int .i64 k, .string t1, .string t2, .int .i64 z, .string t3], .agg #[.int .i64 ag, .slice X ng cg, .int .i64 kg, .string g1, .string g2, .int .i64 zg, .string g3]] W fun e w' => e = .returned (.bool true) ∧ Below W.heap.size W w') := fun X cg W h1 h2 => hs2 X cg W (by trivial) h1 h2
        have dp : (p : Int) ≤ 384 := by have := HPl.out; omega
        have hcv : ∀ W, PuV w W R0 R1 v9 v11 v13 (#[.int .i64 a, .slice A n c, .int .i64 k, .string t1, .string t2, .int .i64 z, .string t3]) (#[.int .i64 a', .slice C m d, .int .i64 k', .string t1', .string t2', .int .i64 z', .string t3']) (#[.int .i64 ag, .slice X ng cg, .int .i64 kg, .string g1, .string g2, .int .i64 zg, .string g3]) id A5 A7 A11 A13 p c11 c13 P X lg → (convert 29 9 (.slice A5 p c5)).run Tryd.prog W = .ok (.string sp) W ∧ (convert 29 9 (.slice A7 p c7)).run Tryd.prog W = .ok (.string sp) W ∧ (convert 29 9 (.slice A11 p c11)).run Tryd.prog W = .ok (.string sp) W ∧ (convert 29 9 (.slice A13 p c13)).run Tryd.prog W = .ok (.string sp) W := fun W h => by
          have e := HSp.out
          have e2 := HPp.out
          subst e
          exact ⟨aw_str h.r5 p c5 e2, aw_str h.r7 p c7 e2, aw_str h.r11 p c11 e2, aw_str h.r13 p c13 e2⟩
        clear hs2
        have S0 : PuV w W7.drew R0 R1 v9 v11 v13 (#[.int .i64 a, .slice A n c, .int .i64 k, .string t1, .string t2, .int .i64 z, .string t3]) (#[.int .i64 a', .slice C m d, .int .i64 k', .string t1', .string t2', .int .i64 z', .string t3']) (#[.int .i64 ag, .slice X ng cg, .int .i64 kg, .string g1, .string g2, .int .i64 zg, .string g3]) id A5 A7 A11 A13 p c11 c13 P X lg := PuV.up P7.out ⟨rfl, rfl, rfl, Nat.le_refl _, fun _ _ => rfl⟩
        refine region_T (fun W => PuV w W R0 R1 v9 v11 v13 (#[.int .i64 a, .slice A n c, .int .i64 k, .string t1, .string t2, .int .i64 z, .string t3]) (#[.int .i64 a', .slice C m d, .int .i64 k', .string t1', .string t2', .int .i64 z', .string t3']) (#[.int .i64 ag, .slice X ng cg, .int .i64 kg, .string g1, .string g2, .int .i64 zg, .string g3]) id A5 A7 A11 A13 p c11 c13 P X lg) (fun j => decide (67 ≤ j)) (by kernel_rfl) ?_
        refine any_asT rfl (listed' := #[false, false, false, false, false, false, false, false, false, false, false, false, false, false, false, false, false, false, false, false, false, false, false, false, false, false, false, false, false, false, false, false, false, false, false, false, false, false, false, false, false, false, false, false, false, false, false, false, false, false, false, false, false, false, false, false, false, false, false, false, false, false, false, false, false, false, false, false]) (by kernel_rfl) ?_
        generalize W7.drew = V0 at S0 ⊢
        refine take_d (i := 0) (.slice A5 p c5) 47 rfl (by kernel_rfl) (by kernel_rfl) (by kernel_rfl) (by kernel_rfl) rfl (by kernel_rfl) (by kernel_rfl) (fun W hW => by kernel_rfl) S0 (fun _ _ _ h => h) ?_
        simp only [Act.put, List.setIfInBounds_toArray, List.set_cons_zero, List.set_cons_succ]
        refine take_d (i := 1) (.string sp) 48 rfl (by kernel_rfl) (by kernel_rfl) (by kernel_rfl) (by kernel_rfl) rfl (by kernel_rfl) (by kernel_rfl) (fun W hW => str_runO (.tmp 47) A5 p c5 sp (by kernel_rfl) (by kernel_rfl) (hcv W hW).1) S0 (fun _ _ _ h => h) ?_
        simp only [Act.put, List.setIfInBounds_toArray, List.set_cons_zero, List.set_cons_succ]
        refine take_d (i := 2) (.slice A7 p c7) 49 rfl (by kernel_rfl) (by kernel_rfl) (by kernel_rfl) (by kernel_rfl) rfl (by kernel_rfl) (by kernel_rfl) (fun W hW => by kernel_rfl) S0 (fun _ _ _ h => h) ?_
        simp only [Act.put, List.setIfInBounds_toArray, List.set_cons_zero, List.set_cons_succ]
        refine take_d (i := 3) (.string sp) 50 rfl (by kernel_rfl) (by kernel_rfl) (by kernel_rfl) (by kernel_rfl) rfl (by kernel_rfl) (by kernel_rfl) (fun W hW => str_runO (.tmp 49) A7 p c7 sp (by kernel_rfl) (by kernel_rfl) (hcv W hW).2.1) S0 (fun _ _ _ h => h) ?_
        simp only [Act.put, List.setIfInBounds_toArray, List.set_cons_zero, List.set_cons_succ]
        refine take_d (i := 4) (.bool true) 51 rfl (by kernel_rfl) (by kernel_rfl) (by kernel_rfl) (by kernel_rfl) rfl (by kernel_rfl) (by kernel_rfl) (fun W hW => seql_runO (.tmp 48) (.tmp 50) sp (by kernel_rfl) (by kernel_rfl) (by kernel_rfl)) S0 (fun _ _ _ h => h) ?_
        simp only [Act.put, List.setIfInBounds_toArray, List.set_cons_zero, List.set_cons_succ]
        refine take_d (i := 5) (.bool true) 52 rfl (by kernel_rfl) (by kernel_rfl) (by kernel_rfl) (by kernel_rfl) rfl (by kernel_rfl) (by kernel_rfl) (fun W hW => by kernel_rfl) S0 (fun _ _ _ h => h) ?_
        simp only [Act.put, List.setIfInBounds_toArray, List.set_cons_zero, List.set_cons_succ]
        refine take_d (i := 6) (.int .i64 0) 53 rfl (by kernel_rfl) (by kernel_rfl) (by kernel_rfl) (by kernel_rfl) rfl (by kernel_rfl) (by kernel_rfl) (fun W hW => by kernel_rfl) S0 (fun _ _ _ h => h) ?_
        simp only [Act.put, List.setIfInBounds_toArray, List.set_cons_zero, List.set_cons_succ]
        refine take_d (i := 7) (.int .i64 0) 54 rfl (by kernel_rfl) (by kernel_rfl) (by kernel_rfl) (by kernel_rfl) rfl (by kernel_rfl) (by kernel_rfl) (fun W hW => by kernel_rfl) S0 (fun _ _ _ h => h) ?_
        simp only [Act.put, List.setIfInBounds_toArray, List.set_cons_zero, List.set_cons_succ]
        refine take_d (i := 8) (.bool true) 55 rfl (by kernel_rfl) (by kernel_rfl) (by kernel_rfl) (by kernel_rfl) rfl (by kernel_rfl) (by kernel_rfl) (fun W hW => ieql_runU (.tmp 53) (.tmp 54) 0 (by kernel_rfl) (by kernel_rfl) (by kernel_rfl)) S0 (fun _ _ _ h => h) ?_
        simp only [Act.put, List.setIfInBounds_toArray, List.set_cons_zero, List.set_cons_succ]
        refine take_d (i := 9) (.bool true) 56 rfl (by kernel_rfl) (by kernel_rfl) (by kernel_rfl) (by kernel_rfl) rfl (by kernel_rfl) (by kernel_rfl) (fun W hW => by kernel_rfl) S0 (fun _ _ _ h => h) ?_
        simp only [Act.put, List.setIfInBounds_toArray, List.set_cons_zero, List.set_cons_succ]
        refine take_d (i := 10) (.bool true) 57 rfl (by kernel_rfl) (by kernel_rfl) (by kernel_rfl) (by kernel_rfl) rfl (by kernel_rfl) (by kernel_rfl) (fun W hW => by kernel_rfl) S0 (fun _ _ _ h => h) ?_
        simp only [Act.put, List.setIfInBounds_toArray, List.set_cons_zero, List.set_cons_succ]
        refine take_d (i := 11) (.agg #[.int .i64 a, .slice A n c, .int .i64 k, .string t1, .string t2, .int .i64 z, .string t3]) 58 rfl (by kernel_rfl) (by kernel_rfl) (by kernel_rfl) (by kernel_rfl) rfl (by kernel_rfl) (by kernel_rfl) (fun W hW => load_run 26 (.tmp 2) R0 0 [.int .i64 a, .slice A n c, .int .i64 k, .string t1, .string t2, .int .i64 z, .string t3] _ (by kernel_rfl) (by kernel_rfl) (blk_range7 hW.s.u0) Tryd.underlying26 rfl (by kernel_rfl) #[.int .i64 a, .slice A n c, .int .i64 k, .string t1, .string t2, .int .i64 z, .string t3] rfl) S0 (fun _ _ _ h => h) ?_
        simp only [Act.put, List.setIfInBounds_toArray, List.set_cons_zero, List.set_cons_succ]
        refine take_d (i := 13) (.int .i64 0) 60 rfl (by kernel_rfl) (by kernel_rfl) (by kernel_rfl) (by kernel_rfl) rfl (by kernel_rfl) (by kernel_rfl) (fun W hW => by kernel_rfl) S0 (fun _ _ _ h => h) ?_
        simp only [Act.put, List.setIfInBounds_toArray, List.set_cons_zero, List.set_cons_succ]
        refine any_comes (i := 12) (by kernel_rfl) (op_enter 13 #[.agg #[.int .i64 a, .slice A n c, .int .i64 k, .string t1, .string t2, .int .i64 z, .string t3]] (some 59) rfl (by kernel_rfl) (by kernel_rfl) (by kernel_rfl) ((HC0n.out V0 S0.s.below).mono ?_))
        rintro e z1 ⟨rfl, e1⟩
        have S1 : PuV w z1 R0 R1 v9 v11 v13 (#[.int .i64 a, .slice A n c, .int .i64 k, .string t1, .string t2, .int .i64 z, .string t3]) (#[.int .i64 a', .slice C m d, .int .i64 k', .string t1', .string t2', .int .i64 z', .string t3']) (#[.int .i64 ag, .slice X ng cg, .int .i64 kg, .string g1, .string g2, .int .i64 zg, .string g3]) id A5 A7 A11 A13 p c11 c13 P X lg := PuV.up S0 e1
        refine ⟨_, rfl, S1, ?_⟩
        simp only [Act.put, List.setIfInBounds_toArray, List.set_cons_zero, List.set_cons_succ]
        refine take_d (i := 14) (.bool true) 61 rfl (by kernel_rfl) (by kernel_rfl) (by kernel_rfl) (by kernel_rfl) rfl (by kernel_rfl) (by kernel_rfl) (fun W hW => ieql_runU (.tmp 59) (.tmp 60) 0 (by kernel_rfl) (by kernel_rfl) (by kernel_rfl)) S1 (fun _ _ _ h => h) ?_
        simp only [Act.put, List.setIfInBounds_toArray, List.set_cons_zero, List.set_cons_succ]
        refine take_d (i := 15) (.bool true) 62 rfl (by kernel_rfl) (by kernel_rfl) (by kernel_rfl) (by kernel_rfl) rfl (by kernel_rfl) (by kernel_rfl) (fun W hW => by kernel_rfl) S1 (fun _ _ _ h => h) ?_
        simp only [Act.put, List.setIfInBounds_toArray, List.set_cons_zero, List.set_cons_succ]
        refine take_d (i := 16) (.bool true) 63 rfl (by kernel_rfl) (by kernel_rfl) (by kernel_rfl) (by kernel_rfl) rfl (by kernel_rfl) (by kernel_rfl) (fun W hW => by kernel_rfl) S1 (fun _ _ _ h => h) ?_
        simp only [Act.put, List.setIfInBounds_toArray, List.set_cons_zero, List.set_cons_succ]
        refine take_d (i := 17) (.slice A5 p c5) 64 rfl (by kernel_rfl) (by kernel_rfl) (by kernel_rfl) (by kernel_rfl) rfl (by kernel_rfl) (by kernel_rfl) (fun W hW => by kernel_rfl) S1 (fun _ _ _ h => h) ?_
        simp only [Act.put, List.setIfInBounds_toArray, List.set_cons_zero, List.set_cons_succ]
        refine take_d (i := 18) (.int .i64 ((p : Nat) : Int)) 65 rfl (by kernel_rfl) (by kernel_rfl) (by kernel_rfl) (by kernel_rfl) rfl (by kernel_rfl) (by kernel_rfl) (fun W hW => by kernel_rfl) S1 (fun _ _ _ h => h) ?_
        simp only [Act.put, List.setIfInBounds_toArray, List.set_cons_zero, List.set_cons_succ]
        refine take_d (i := 19) (.bool true) 66 rfl (by kernel_rfl) (by kernel_rfl) (by kernel_rfl) (by kernel_rfl) rfl (by kernel_rfl) (by kernel_rfl) (fun W hW => ileq_runU (.tmp 65) (.const (.int .i64 384)) ((p : Nat) : Int) 384 dp (by kernel_rfl) (by kernel_rfl) (by kernel_rfl)) S1 (fun _ _ _ h => h) ?_
        simp only [Act.put, List.setIfInBounds_toArray, List.set_cons_zero, List.set_cons_succ]
        refine take_d (i := 20) (.bool true) 67 rfl (by kernel_rfl) (by kernel_rfl) (by kernel_rfl) (by kernel_rfl) rfl (by kernel_rfl) (by kernel_rfl) (fun W hW => by kernel_rfl) S1 (fun _ _ _ h => h) ?_
        simp only [Act.put, List.setIfInBounds_toArray, List.set_cons_zero, List.set_cons_succ]
        refine take_d (i := 21) (.bool true) 68 rfl (by kernel_rfl) (by kernel_rfl) (by kernel_rfl) (by kernel_rfl) rfl (by kernel_rfl) (by kernel_rfl) (fun W hW => by kernel_rfl) S1 (fun _ _ _ h => h) ?_
        simp only [Act.put, List.setIfInBounds_toArray, List.set_cons_zero, List.set_cons_succ]
        refine take_d (i := 22) (.int .i64 0) 69 rfl (by kernel_rfl) (by kernel_rfl) (by kernel_rfl) (by kernel_rfl) rfl (by kernel_rfl) (by kernel_rfl) (fun W hW => by kernel_rfl) S1 (fun _ _ _ h => h) ?_
        simp only [Act.put, List.setIfInBounds_toArray, List.set_cons_zero, List.set_cons_succ]
        refine take_d (i := 23) (.bool false) 70 rfl (by kernel_rfl) (by kernel_rfl) (by kernel_rfl) (by kernel_rfl) rfl (by kernel_rfl) (by kernel_rfl) (fun W hW => by kernel_rfl) S1 (fun _ _ _ h => h) ?_
        simp only [Act.put, List.setIfInBounds_toArray, List.set_cons_zero, List.set_cons_succ]
        refine take_d (i := 24) (.bool false) 71 rfl (by kernel_rfl) (by kernel_rfl) (by kernel_rfl) (by kernel_rfl) rfl (by kernel_rfl) (by kernel_rfl) (fun W hW => by kernel_rfl) S1 (fun _ _ _ h => h) ?_
        simp only [Act.put, List.setIfInBounds_toArray, List.set_cons_zero, List.set_cons_succ]
        refine take_d (i := 25) (.int .i64 0) 72 rfl (by kernel_rfl) (by kernel_rfl) (by kernel_rfl) (by kernel_rfl) rfl (by kernel_rfl) (by kernel_rfl) (fun W hW => by kernel_rfl) S1 (fun _ _ _ h => h) ?_
        simp only [Act.put, List.setIfInBounds_toArray, List.set_cons_zero, List.set_cons_succ]
        refine take_d (i := 26) (.bool true) 73 rfl (by kernel_rfl) (by kernel_rfl) (by kernel_rfl) (by kernel_rfl) rfl (by kernel_rfl) (by kernel_rfl) (fun W hW => by kernel_rfl) S1 (fun _ _ _ h => h) ?_
        simp only [Act.put, List.setIfInBounds_toArray, List.set_cons_zero, List.set_cons_succ]
        refine take_d (i := 27) (.bool true) 74 rfl (by kernel_rfl) (by kernel_rfl) (by kernel_rfl) (by kernel_rfl) rfl (by kernel_rfl) (by kernel_rfl) (fun W hW => by kernel_rfl) S1 (fun _ _ _ h => h) ?_
        simp only [Act.put, List.setIfInBounds_toArray, List.set_cons_zero, List.set_cons_succ]
        refine take_d (i := 28) (.agg #[.int .i64 a, .slice A n c, .int .i64 k, .string t1, .string t2, .int .i64 z, .string t3]) 75 rfl (by kernel_rfl) (by kernel_rfl) (by kernel_rfl) (by kernel_rfl) rfl (by kernel_rfl) (by kernel_rfl) (fun W hW => load_run 26 (.tmp 2) R0 0 [.int .i64 a, .slice A n c, .int .i64 k, .string t1, .string t2, .int .i64 z, .string t3] _ (by kernel_rfl) (by kernel_rfl) (blk_range7 hW.s.u0) Tryd.underlying26 rfl (by kernel_rfl) #[.int .i64 a, .slice A n c, .int .i64 k, .string t1, .string t2, .int .i64 z, .string t3] rfl) S1 (fun _ _ _ h => h) ?_
        simp only [Act.put, List.setIfInBounds_toArray, List.set_cons_zero, List.set_cons_succ]
        refine take_d (i := 29) (.agg #[.int .i64 ag, .slice X ng cg, .int .i64 kg, .string g1, .string g2, .int .i64 zg, .string g3]) 76 rfl (by kernel_rfl) (by kernel_rfl) (by kernel_rfl) (by kernel_rfl) rfl (by kernel_rfl) (by kernel_rfl) (fun W hW => load_run 26 (.tmp 9) v9 0 [.int .i64 ag, .slice X ng cg, .int .i64 kg, .string g1, .string g2, .int .i64 zg, .string g3] _ (by kernel_rfl) (by kernel_rfl) (blk_range7 hW.u9) Tryd.underlying26 rfl (by kernel_rfl) #[.int .i64 ag, .slice X ng cg, .int .i64 kg, .string g1, .string g2, .int .i64 zg, .string g3] rfl) S1 (fun _ _ _ h => h) ?_
        simp only [Act.put, List.setIfInBounds_toArray, List.set_cons_zero, List.set_cons_succ]
        refine any_comes (i := 30) (by kernel_rfl) (op_enter 14 #[.agg #[.int .i64 a, .slice A n c, .int .i64 k, .string t1, .string t2, .int .i64 z, .string t3], .agg #[.int .i64 ag, .slice X ng cg, .int .i64 kg, .string g1, .string g2, .int .i64 zg, .string g3]] (some 77) rfl (by kernel_rfl) (by kernel_rfl) (by kernel_rfl) ((HS2.out X cg z1 S1.s.below S1.sx).mono ?_))
        rintro e z5 ⟨rfl, e5⟩
        have S5 : PuV w z5 R0 R1 v9 v11 v13 (#[.int .i64 a, .slice A n c, .int .i64 k, .string t1, .string t2, .int .i64 z, .string t3]) (#[.int .i64 a', .slice C m d, .int .i64 k', .string t1', .string t2', .int .i64 z', .string t3']) (#[.int .i64 ag, .slice X ng cg, .int .i64 kg, .string g1, .string g2, .int .i64 zg, .string g3]) id A5 A7 A11 A13 p c11 c13 P X lg := PuV.up S1 e5
        refine ⟨_, rfl, S5, ?_⟩
        simp only [Act.put, List.setIfInBounds_toArray, List.set_cons_zero, List.set_cons_succ]
        refine take_d (i := 31) (.bool true) 78 rfl (by kernel_rfl) (by kernel_rfl) (by kernel_rfl) (by kernel_rfl) rfl (by kernel_rfl) (by kernel_rfl) (fun W hW => by kernel_rfl) S5 (fun _ _ _ h => h) ?_
        simp only [Act.put, List.setIfInBounds_toArray, List.set_cons_zero, List.set_cons_succ]
        refine take_d (i := 32) (.bool true) 79 rfl (by kernel_rfl) (by kernel_rfl) (by kernel_rfl) (by kernel_rfl) rfl (by kernel_rfl) (by kernel_rfl) (fun W hW => by kernel_rfl) S5 (fun _ _ _ h => h) ?_
        simp only [Act.put, List.setIfInBounds_toArray, List.set_cons_zero, List.set_cons_succ]
        refine take_d (i := 33) (.bool true) 80 rfl (by kernel_rfl) (by kernel_rfl) (by kernel_rfl) (by kernel_rfl) rfl (by kernel_rfl) (by kernel_rfl) (fun W hW => by kernel_rfl) S5 (fun _ _ _ h => h) ?_
        simp only [Act.put, List.setIfInBounds_toArray, List.set_cons_zero, List.set_cons_succ]
        refine take_d (i := 34) (.bool true) 81 rfl (by kernel_rfl) (by kernel_rfl) (by kernel_rfl) (by kernel_rfl) rfl (by kernel_rfl) (by kernel_rfl) (fun W hW => by kernel_rfl) S5 (fun _ _ _ h => h) ?_
        simp only [Act.put, List.setIfInBounds_toArray, List.set_cons_zero, List.set_cons_succ]
        refine take_d (i := 35) (.int .i64 0) 82 rfl (by kernel_rfl) (by kernel_rfl) (by kernel_rfl) (by kernel_rfl) rfl (by kernel_rfl) (by kernel_rfl) (fun W hW => by kernel_rfl) S5 (fun _ _ _ h => h) ?_
        simp only [Act.put, List.setIfInBounds_toArray, List.set_cons_zero, List.set_cons_succ]
        refine take_d (i := 36) (.int .i64 0) 83 rfl (by kernel_rfl) (by kernel_rfl) (by kernel_rfl) (by kernel_rfl) rfl (by kernel_rfl) (by kernel_rfl) (fun W hW => by kernel_rfl) S5 (fun _ _ _ h => h) ?_
        simp only [Act.put, List.setIfInBounds_toArray, List.set_cons_zero, List.set_cons_succ]
        refine take_d (i := 37) (.bool true) 84 rfl (by kernel_rfl) (by kernel_rfl) (by kernel_rfl) (by kernel_rfl) rfl (by kernel_rfl) (by kernel_rfl) (fun W hW => ieql_runU (.tmp 82) (.tmp 83) 0 (by kernel_rfl) (by kernel_rfl) (by kernel_rfl)) S5 (fun _ _ _ h => h) ?_
        simp only [Act.put, List.setIfInBounds_toArray, List.set_cons_zero, List.set_cons_succ]
        refine take_d (i := 38) (.bool true) 85 rfl (by kernel_rfl) (by kernel_rfl) (by kernel_rfl) (by kernel_rfl) rfl (by kernel_rfl) (by kernel_rfl) (fun W hW => by kernel_rfl) S5 (fun _ _ _ h => h) ?_
        simp only [Act.put, List.setIfInBounds_toArray, List.set_cons_zero, List.set_cons_succ]
        refine take_d (i := 39) (.bool true) 86 rfl (by kernel_rfl) (by kernel_rfl) (by kernel_rfl) (by kernel_rfl) rfl (by kernel_rfl) (by kernel_rfl) (fun W hW => by kernel_rfl) S5 (fun _ _ _ h => h) ?_
        simp only [Act.put, List.setIfInBounds_toArray, List.set_cons_zero, List.set_cons_succ]
        refine take_d (i := 40) (.pointer (some ⟨v11, 0, none⟩)) 87 rfl (by kernel_rfl) (by kernel_rfl) (by kernel_rfl) (by kernel_rfl) rfl (by kernel_rfl) (by kernel_rfl) (fun W hW => by kernel_rfl) S5 (fun _ _ _ h => h) ?_
        simp only [Act.put, List.setIfInBounds_toArray, List.set_cons_zero, List.set_cons_succ]
        refine take_d (i := 41) (.string id) 88 rfl (by kernel_rfl) (by kernel_rfl) (by kernel_rfl) (by kernel_rfl) rfl (by kernel_rfl) (by kernel_rfl) (fun W hW => cell_run 9 (.tmp 87) ⟨v11, 0, none⟩ (.string id) _ (by kernel_rfl) (by kernel_rfl) (blk2A hW.i11).1 Tryd.underlying9 rfl (by kernel_rfl)) S5 (fun _ _ _ h => h) ?_
        simp only [Act.put, List.setIfInBounds_toArray, List.set_cons_zero, List.set_cons_succ]
        refine take_d (i := 42) (.pointer (some ⟨v13, 0, none⟩)) 89 rfl (by kernel_rfl) (by kernel_rfl) (by kernel_rfl) (by kernel_rfl) rfl (by kernel_rfl) (by kernel_rfl) (fun W hW => by kernel_rfl) S5 (fun _ _ _ h => h) ?_
        simp only [Act.put, List.setIfInBounds_toArray, List.set_cons_zero, List.set_cons_succ]
        refine take_d (i := 43) (.string id) 90 rfl (by kernel_rfl) (by kernel_rfl) (by kernel_rfl) (by kernel_rfl) rfl (by kernel_rfl) (by kernel_rfl) (fun W hW => cell_run 9 (.tmp 89) ⟨v13, 0, none⟩ (.string id) _ (by kernel_rfl) (by kernel_rfl) (blk2A hW.i13).1 Tryd.underlying9 rfl (by kernel_rfl)) S5 (fun _ _ _ h => h) ?_
        simp only [Act.put, List.setIfInBounds_toArray, List.set_cons_zero, List.set_cons_succ]
        refine take_d (i := 44) (.bool true) 91 rfl (by kernel_rfl) (by kernel_rfl) (by kernel_rfl) (by kernel_rfl) rfl (by kernel_rfl) (by kernel_rfl) (fun W hW => seql_runO (.tmp 88) (.tmp 90) id (by kernel_rfl) (by kernel_rfl) (by kernel_rfl)) S5 (fun _ _ _ h => h) ?_
        simp only [Act.put, List.setIfInBounds_toArray, List.set_cons_zero, List.set_cons_succ]
        refine take_d (i := 45) (.bool true) 92 rfl (by kernel_rfl) (by kernel_rfl) (by kernel_rfl) (by kernel_rfl) rfl (by kernel_rfl) (by kernel_rfl) (fun W hW => by kernel_rfl) S5 (fun _ _ _ h => h) ?_
        simp only [Act.put, List.setIfInBounds_toArray, List.set_cons_zero, List.set_cons_succ]
        refine take_d (i := 46) (.bool true) 93 rfl (by kernel_rfl) (by kernel_rfl) (by kernel_rfl) (by kernel_rfl) rfl (by kernel_rfl) (by kernel_rfl) (fun W hW => by kernel_rfl) S5 (fun _ _ _ h => h) ?_
        simp only [Act.put, List.setIfInBounds_toArray, List.set_cons_zero, List.set_cons_succ]
        refine take_d (i := 47) (.pointer (some ⟨v11, 1, none⟩)) 94 rfl (by kernel_rfl) (by kernel_rfl) (by kernel_rfl) (by kernel_rfl) rfl (by kernel_rfl) (by kernel_rfl) (fun W hW => by kernel_rfl) S5 (fun _ _ _ h => h) ?_
        simp only [Act.put, List.setIfInBounds_toArray, List.set_cons_zero, List.set_cons_succ]
        refine take_d (i := 48) (.slice A11 p c11) 95 rfl (by kernel_rfl) (by kernel_rfl) (by kernel_rfl) (by kernel_rfl) rfl (by kernel_rfl) (by kernel_rfl) (fun W hW => cell_run 29 (.tmp 94) ⟨v11, 1, none⟩ (.slice A11 p c11) _ (by kernel_rfl) (by kernel_rfl) (blk2A hW.i11).2 Tryd.underlying29 rfl (by kernel_rfl)) S5 (fun _ _ _ h => h) ?_
        simp only [Act.put, List.setIfInBounds_toArray, List.set_cons_zero, List.set_cons_succ]
        refine take_d (i := 49) (.string sp) 96 rfl (by kernel_rfl) (by kernel_rfl) (by kernel_rfl) (by kernel_rfl) rfl (by kernel_rfl) (by kernel_rfl) (fun W hW => str_runO (.tmp 95) A11 p c11 sp (by kernel_rfl) (by kernel_rfl) (hcv W hW).2.2.1) S5 (fun _ _ _ h => h) ?_
        simp only [Act.put, List.setIfInBounds_toArray, List.set_cons_zero, List.set_cons_succ]
        refine take_d (i := 50) (.pointer (some ⟨v13, 1, none⟩)) 97 rfl (by kernel_rfl) (by kernel_rfl) (by kernel_rfl) (by kernel_rfl) rfl (by kernel_rfl) (by kernel_rfl) (fun W hW => by kernel_rfl) S5 (fun _ _ _ h => h) ?_
        simp only [Act.put, List.setIfInBounds_toArray, List.set_cons_zero, List.set_cons_succ]
        refine take_d (i := 51) (.slice A13 p c13) 98 rfl (by kernel_rfl) (by kernel_rfl) (by kernel_rfl) (by kernel_rfl) rfl (by kernel_rfl) (by kernel_rfl) (fun W hW => cell_run 29 (.tmp 97) ⟨v13, 1, none⟩ (.slice A13 p c13) _ (by kernel_rfl) (by kernel_rfl) (blk2A hW.i13).2 Tryd.underlying29 rfl (by kernel_rfl)) S5 (fun _ _ _ h => h) ?_
        simp only [Act.put, List.setIfInBounds_toArray, List.set_cons_zero, List.set_cons_succ]
        refine take_d (i := 52) (.string sp) 99 rfl (by kernel_rfl) (by kernel_rfl) (by kernel_rfl) (by kernel_rfl) rfl (by kernel_rfl) (by kernel_rfl) (fun W hW => str_runO (.tmp 98) A13 p c13 sp (by kernel_rfl) (by kernel_rfl) (hcv W hW).2.2.2) S5 (fun _ _ _ h => h) ?_
        simp only [Act.put, List.setIfInBounds_toArray, List.set_cons_zero, List.set_cons_succ]
        refine take_d (i := 53) (.bool true) 100 rfl (by kernel_rfl) (by kernel_rfl) (by kernel_rfl) (by kernel_rfl) rfl (by kernel_rfl) (by kernel_rfl) (fun W hW => seql_runO (.tmp 96) (.tmp 99) sp (by kernel_rfl) (by kernel_rfl) (by kernel_rfl)) S5 (fun _ _ _ h => h) ?_
        simp only [Act.put, List.setIfInBounds_toArray, List.set_cons_zero, List.set_cons_succ]
        refine take_d (i := 54) (.bool true) 101 rfl (by kernel_rfl) (by kernel_rfl) (by kernel_rfl) (by kernel_rfl) rfl (by kernel_rfl) (by kernel_rfl) (fun W hW => by kernel_rfl) S5 (fun _ _ _ h => h) ?_
        simp only [Act.put, List.setIfInBounds_toArray, List.set_cons_zero, List.set_cons_succ]
        refine take_d (i := 55) (.bool true) 102 rfl (by kernel_rfl) (by kernel_rfl) (by kernel_rfl) (by kernel_rfl) rfl (by kernel_rfl) (by kernel_rfl) (fun W hW => by kernel_rfl) S5 (fun _ _ _ h => h) ?_
        simp only [Act.put, List.setIfInBounds_toArray, List.set_cons_zero, List.set_cons_succ]
        refine take_d (i := 56) (.agg #[.int .i64 a, .slice A n c, .int .i64 k, .string t1, .string t2, .int .i64 z, .string t3]) 103 rfl (by kernel_rfl) (by kernel_rfl) (by kernel_rfl) (by kernel_rfl) rfl (by kernel_rfl) (by kernel_rfl) (fun W hW => load_run 26 (.tmp 2) R0 0 [.int .i64 a, .slice A n c, .int .i64 k, .string t1, .string t2, .int .i64 z, .string t3] _ (by kernel_rfl) (by kernel_rfl) (blk_range7 hW.s.u0) Tryd.underlying26 rfl (by kernel_rfl) #[.int .i64 a, .slice A n c, .int .i64 k, .string t1, .string t2, .int .i64 z, .string t3] rfl) S5 (fun _ _ _ h => h) ?_
        simp only [Act.put, List.setIfInBounds_toArray, List.set_cons_zero, List.set_cons_succ]
        refine take_d (i := 57) (.agg #[.int .i64 a', .slice C m d, .int .i64 k', .string t1', .string t2', .int .i64 z', .string t3']) 104 rfl (by kernel_rfl) (by kernel_rfl) (by kernel_rfl) (by kernel_rfl) rfl (by kernel_rfl) (by kernel_rfl) (fun W hW => load_run 26 (.tmp 3) R1 0 [.int .i64 a', .slice C m d, .int .i64 k', .string t1', .string t2', .int .i64 z', .string t3'] _ (by kernel_rfl) (by kernel_rfl) (blk_range7 hW.s.u1) Tryd.underlying26 rfl (by kernel_rfl) #[.int .i64 a', .slice C m d, .int .i64 k', .string t1', .string t2', .int .i64 z', .string t3'] rfl) S5 (fun _ _ _ h => h) ?_
        simp only [Act.put, List.setIfInBounds_toArray, List.set_cons_zero, List.set_cons_succ]
        refine take_d (i := 59) (.agg #[.int .i64 a, .slice A n c, .int .i64 k, .string t1, .string t2, .int .i64 z, .string t3]) 106 rfl (by kernel_rfl) (by kernel_rfl) (by kernel_rfl) (by kernel_rfl) rfl (by kernel_rfl) (by kernel_rfl) (fun W hW => load_run 26 (.tmp 2) R0 0 [.int .i64 a, .slice A n c, .int .i64 k, .string t1, .string t2, .int .i64 z, .string t3] _ (by kernel_rfl) (by kernel_rfl) (blk_range7 hW.s.u0) Tryd.underlying26 rfl (by kernel_rfl) #[.int .i64 a, .slice A n c, .int .i64 k, .string t1, .string t2, .int .i64 z, .string t3] rfl) S5 (fun _ _ _ h => h) ?_
        simp only [Act.put, List.setIfInBounds_toArray, List.set_cons_zero, List.set_cons_succ]
        refine take_d (i := 60) (.agg #[.int .i64 a', .slice C m d, .int .i64 k', .string t1', .string t2', .int .i64 z', .string t3']) 107 rfl (by kernel_rfl) (by kernel_rfl) (by kernel_rfl) (by kernel_rfl) rfl (by kernel_rfl) (by kernel_rfl) (fun W hW => load_run 26 (.tmp 3) R1 0 [.int .i64 a', .slice C m d, .int .i64 k', .string t1', .string t2', .int .i64 z', .string t3'] _ (by kernel_rfl) (by kernel_rfl) (blk_range7 hW.s.u1) Tryd.underlying26 rfl (by kernel_rfl) #[.int .i64 a', .slice C m d, .int .i64 k', .string t1', .string t2', .int .i64 z', .string t3'] rfl) S5 (fun _ _ _ h => h) ?_
        simp only [Act.put, List.setIfInBounds_toArray, List.set_cons_zero, List.set_cons_succ]
        refine any_comes (i := 58) (by kernel_rfl) (op_enter 15 #[.agg #[.int .i64 a, .slice A n c, .int .i64 k, .string t1, .string t2, .int .i64 z, .string t3], .agg #[.int .i64 a', .slice C m d, .int .i64 k', .string t1', .string t2', .int .i64 z', .string t3']] (some 105) rfl (by kernel_rfl) (by kernel_rfl) (by kernel_rfl) ((HS0n.out z5 S5.s.below).mono ?_))
        rintro e z2 ⟨rfl, e2⟩
        have S2 : PuV w z2 R0 R1 v9 v11 v13 (#[.int .i64 a, .slice A n c, .int .i64 k, .string t1, .string t2, .int .i64 z, .string t3]) (#[.int .i64 a', .slice C m d, .int .i64 k', .string t1', .string t2', .int .i64 z', .string t3']) (#[.int .i64 ag, .slice X ng cg, .int .i64 kg, .string g1, .string g2, .int .i64 zg, .string g3]) id A5 A7 A11 A13 p c11 c13 P X lg := PuV.up S5 e2
        refine ⟨_, rfl, S2, ?_⟩
        simp only [Act.put, List.setIfInBounds_toArray, List.set_cons_zero, List.set_cons_succ]
        refine any_comes (i := 61) (by kernel_rfl) (op_enter 14 #[.agg #[.int .i64 a, .slice A n c, .int .i64 k, .string t1, .string t2, .int .i64 z, .string t3], .agg #[.int .i64 a', .slice C m d, .int .i64 k', .string t1', .string t2', .int .i64 z', .string t3']] (some 108) rfl (by kernel_rfl) (by kernel_rfl) (by kernel_rfl) ((HS1n.out z2 S2.s.below).mono ?_))
        rintro e z3 ⟨rfl, e3⟩
        have S3 : PuV w z3 R0 R1 v9 v11 v13 (#[.int .i64 a, .slice A n c, .int .i64 k, .string t1, .string t2, .int .i64 z, .string t3]) (#[.int .i64 a', .slice C m d, .int .i64 k', .string t1', .string t2', .int .i64 z', .string t3']) (#[.int .i64 ag, .slice X ng cg, .int .i64 kg, .string g1, .string g2, .int .i64 zg, .string g3]) id A5 A7 A11 A13 p c11 c13 P X lg := PuV.up S2 e3
        refine ⟨_, rfl, S3, ?_⟩
        simp only [Act.put, List.setIfInBounds_toArray, List.set_cons_zero, List.set_cons_succ]
        refine take_d (i := 62) (.bool true) 109 rfl (by kernel_rfl) (by kernel_rfl) (by kernel_rfl) (by kernel_rfl) rfl (by kernel_rfl) (by kernel_rfl) (fun W hW => beql_runO (.tmp 105) (.tmp 108) uv (by kernel_rfl) (by kernel_rfl) (by kernel_rfl)) S3 (fun _ _ _ h => h) ?_
        simp only [Act.put, List.setIfInBounds_toArray, List.set_cons_zero, List.set_cons_succ]
        refine take_d (i := 63) (.bool true) 110 rfl (by kernel_rfl) (by kernel_rfl) (by kernel_rfl) (by kernel_rfl) rfl (by kernel_rfl) (by kernel_rfl) (fun W hW => by kernel_rfl) S3 (fun _ _ _ h => h) ?_
        simp only [Act.put, List.setIfInBounds_toArray, List.set_cons_zero, List.set_cons_succ]
        refine take_d (i := 64) (.bool true) 111 rfl (by kernel_rfl) (by kernel_rfl) (by kernel_rfl) (by kernel_rfl) rfl (by kernel_rfl) (by kernel_rfl) (fun W hW => by kernel_rfl) S3 (fun _ _ _ h => h) ?_
        simp only [Act.put, List.setIfInBounds_toArray, List.set_cons_zero, List.set_cons_succ]
        refine any_comes (i := 65) (by kernel_rfl) (op_enter 7 #[] (some 112) rfl (by kernel_rfl) (by kernel_rfl) (by kernel_rfl) ((HAw.out z3 S3.s.below).mono ?_))
        rintro e z4 ⟨rfl, e4⟩
        have S4 : PuV w z4 R0 R1 v9 v11 v13 (#[.int .i64 a, .slice A n c, .int .i64 k, .string t1, .string t2, .int .i64 z, .string t3]) (#[.int .i64 a', .slice C m d, .int .i64 k', .string t1', .string t2', .int .i64 z', .string t3']) (#[.int .i64 ag, .slice X ng cg, .int .i64 kg, .string g1, .string g2, .int .i64 zg, .string g3]) id A5 A7 A11 A13 p c11 c13 P X lg := PuV.up S3 e4
        refine ⟨_, rfl, S4, ?_⟩
        simp only [Act.put, List.setIfInBounds_toArray, List.set_cons_zero, List.set_cons_succ]
        refine take_d (i := 66) (.bool true) 113 rfl (by kernel_rfl) (by kernel_rfl) (by kernel_rfl) (by kernel_rfl) rfl (by kernel_rfl) (by kernel_rfl) (fun W hW => by kernel_rfl) S4 (fun _ _ _ h => h) ?_
        simp only [Act.put, List.setIfInBounds_toArray, List.set_cons_zero, List.set_cons_succ]
        refine any_left (by kernel_rfl) ?_
        refine wpAny_tail 67 (by kernel_rfl) (by kernel_rfl) ?_
        simp only [List.append, List.append_eq, List.drop_succ_cons, List.drop_zero]
        go_wp2
        go_ret
        exact ⟨rfl, by first | exact S4.s.below | exact S4.s.below.drew⟩
      · have hcv : ∀ W, PuV w W R0 R1 v9 v11 v13 (#[.int .i64 a, .slice A n c, .int .i64 k, .string t1, .string t2, .int .i64 z, .string t3]) (#[.int .i64 a', .slice C m d, .int .i64 k', .string t1', .string t2', .int .i64 z', .string t3']) (#[.int .i64 ag, .slice X ng cg, .int .i64 kg, .string g1, .string g2, .int .i64 zg, .string g3]) id A5 A7 A11 A13 0 c11 c13 [] X lg → (convert 29 9 (.slice A5 0 c5)).run Tryd.prog W = .ok (.string sp) W ∧ (convert 29 9 (.slice A7 0 c7)).run Tryd.prog W = .ok (.string sp) W ∧ (convert 29 9 (.slice A11 0 c11)).run Tryd.prog W = .ok (.string sp) W ∧ (convert 29 9 (.slice A13 0 c13)).run Tryd.prog W = .ok (.string sp) W := fun W h => by
          have e := HSp.out
          subst e
          exact ⟨aw_str h.r5 0 c5 rfl, aw_str h.r7 0 c7 rfl, aw_str h.r11 0 c11 rfl, aw_str h.r13 0 c13 rfl⟩
        have hy0 : y ≠ 0 := by omega
        clear hy
        have S0 : PuV w W7.drew R0 R1 v9 v11 v13 (#[.int .i64 a, .slice A n c, .int .i64 k, .string t1, .string t2, .int .i64 z, .string t3]) (#[.int .i64 a', .slice C m d, .int .i64 k', .string t1', .string t2', .int .i64 z', .string t3']) (#[.int .i64 ag, .slice X ng cg, .int .i64 kg, .string g1, .string g2, .int .i64 zg, .string g3]) id A5 A7 A11 A13 0 c11 c13 [] X lg := PuV.up P7.out ⟨rfl, rfl, rfl, Nat.le_refl _, fun _ _ => rfl⟩
        refine region_T (fun W => PuV w W R0 R1 v9 v11 v13 (#[.int .i64 a, .slice A n c, .int .i64 k, .string t1, .string t2, .int .i64 z, .string t3]) (#[.int .i64 a', .slice C m d, .int .i64 k', .string t1', .string t2', .int .i64 z', .string t3']) (#[.int .i64 ag, .slice X ng cg, .int .i64 kg, .string g1, .string g2, .int .i64 zg, .string g3]) id A5 A7 A11 A13 0 c11 c13 [] X lg) (fun j => decide (67 ≤ j)) (by kernel_rfl) ?_
        refine any_asT rfl (listed' := #[false, false, false, false, false, false, false, false, false, false, false, false, false, false, false, false, false, false, false, false, false, false, false, false, false, false, false, false, false, false, false, false, false, false, false, false, false, false, false, false, false, false, false, false, false, false, false, false, false, false, false, false, false, false, false, false, false, false, false, false, false, false, false, false, false, false, false, false]) (by kernel_rfl) ?_
        generalize W7.drew = V0 at S0 ⊢
        refine take_d (i := 0) (.slice A5 0 c5) 47 rfl (by kernel_rfl) (by kernel_rfl) (by kernel_rfl) (by kernel_rfl) rfl (by kernel_rfl) (by kernel_rfl) (fun W hW => by kernel_rfl) S0 (fun _ _ _ h => h) ?_
        simp only [Act.put, List.setIfInBounds_toArray, List.set_cons_zero, List.set_cons_succ]
        refine take_d (i := 1) (.string sp) 48 rfl (by kernel_rfl) (by kernel_rfl) (by kernel_rfl) (by kernel_rfl) rfl (by kernel_rfl) (by kernel_rfl) (fun W hW => str_runO (.tmp 47) A5 0 c5 sp (by kernel_rfl) (by kernel_rfl) (hcv W hW).1) S0 (fun _ _ _ h => h) ?_
        simp only [Act.put, List.setIfInBounds_toArray, List.set_cons_zero, List.set_cons_succ]
        refine take_d (i := 2) (.slice A7 0 c7) 49 rfl (by kernel_rfl) (by kernel_rfl) (by kernel_rfl) (by kernel_rfl) rfl (by kernel_rfl) (by kernel_rfl) (fun W hW => by kernel_rfl) S0 (fun _ _ _ h => h) ?_
        simp only [Act.put, List.setIfInBounds_toArray, List.set_cons_zero, List.set_cons_succ]
        refine take_d (i := 3) (.string sp) 50 rfl (by kernel_rfl) (by kernel_rfl) (by kernel_rfl) (by kernel_rfl) rfl (by kernel_rfl) (by kernel_rfl) (fun W hW => str_runO (.tmp 49) A7 0 c7 sp (by kernel_rfl) (by kernel_rfl) (hcv W hW).2.1) S0 (fun _ _ _ h => h) ?_
        simp only [Act.put, List.setIfInBounds_toArray, List.set_cons_zero, List.set_cons_succ]
        refine take_d (i := 4) (.bool true) 51 rfl (by kernel_rfl) (by kernel_rfl) (by kernel_rfl) (by kernel_rfl) rfl (by kernel_rfl) (by kernel_rfl) (fun W hW => seql_runO (.tmp 48) (.tmp 50) sp (by kernel_rfl) (by kernel_rfl) (by kernel_rfl)) S0 (fun _ _ _ h => h) ?_
        simp only [Act.put, List.setIfInBounds_toArray, List.set_cons_zero, List.set_cons_succ]
        refine take_d (i := 5) (.bool true) 52 rfl (by kernel_rfl) (by kernel_rfl) (by kernel_rfl) (by kernel_rfl) rfl (by kernel_rfl) (by kernel_rfl) (fun W hW => by kernel_rfl) S0 (fun _ _ _ h => h) ?_
        simp only [Act.put, List.setIfInBounds_toArray, List.set_cons_zero, List.set_cons_succ]
        refine take_d (i := 6) (.int .i64 y) 53 rfl (by kernel_rfl) (by kernel_rfl) (by kernel_rfl) (by kernel_rfl) rfl (by kernel_rfl) (by kernel_rfl) (fun W hW => by kernel_rfl) S0 (fun _ _ _ h => h) ?_
        simp only [Act.put, List.setIfInBounds_toArray, List.set_cons_zero, List.set_cons_succ]
        refine take_d (i := 7) (.int .i64 y) 54 rfl (by kernel_rfl) (by kernel_rfl) (by kernel_rfl) (by kernel_rfl) rfl (by kernel_rfl) (by kernel_rfl) (fun W hW => by kernel_rfl) S0 (fun _ _ _ h => h) ?_
        simp only [Act.put, List.setIfInBounds_toArray, List.set_cons_zero, List.set_cons_succ]
        refine take_d (i := 8) (.bool true) 55 rfl (by kernel_rfl) (by kernel_rfl) (by kernel_rfl) (by kernel_rfl) rfl (by kernel_rfl) (by kernel_rfl) (fun W hW => ieql_runU (.tmp 53) (.tmp 54) y (by kernel_rfl) (by kernel_rfl) (by kernel_rfl)) S0 (fun _ _ _ h => h) ?_
        simp only [Act.put, List.setIfInBounds_toArray, List.set_cons_zero, List.set_cons_succ]
        refine take_d (i := 9) (.bool true) 56 rfl (by kernel_rfl) (by kernel_rfl) (by kernel_rfl) (by kernel_rfl) rfl (by kernel_rfl) (by kernel_rfl) (fun W hW => by kernel_rfl) S0 (fun _ _ _ h => h) ?_
        simp only [Act.put, List.setIfInBounds_toArray, List.set_cons_zero, List.set_cons_succ]
        refine take_d (i := 10) (.bool true) 57 rfl (by kernel_rfl) (by kernel_rfl) (by kernel_rfl) (by kernel_rfl) rfl (by kernel_rfl) (by kernel_rfl) (fun W hW => by kernel_rfl) S0 (fun _ _ _ h => h) ?_
        simp only [Act.put, List.setIfInBounds_toArray, List.set_cons_zero, List.set_cons_succ]
        refine take_d (i := 11) (.agg #[.int .i64 a, .slice A n c, .int .i64 k, .string t1, .string t2, .int .i64 z, .string t3]) 58 rfl (by kernel_rfl) (by kernel_rfl) (by kernel_rfl) (by kernel_rfl) rfl (by kernel_rfl) (by kernel_rfl) (fun W hW => load_run 26 (.tmp 2) R0 0 [.int .i64 a, .slice A n c, .int .i64 k, .string t1, .string t2, .int .i64 z, .string t3] _ (by kernel_rfl) (by kernel_rfl) (blk_range7 hW.s.u0) Tryd.underlying26 rfl (by kernel_rfl) #[.int .i64 a, .slice A n c, .int .i64 k, .string t1, .string t2, .int .i64 z, .string t3] rfl) S0 (fun _ _ _ h => h) ?_
        simp only [Act.put, List.setIfInBounds_toArray, List.set_cons_zero, List.set_cons_succ]
        refine take_d (i := 13) (.int .i64 y) 60 rfl (by kernel_rfl) (by kernel_rfl) (by kernel_rfl) (by kernel_rfl) rfl (by kernel_rfl) (by kernel_rfl) (fun W hW => by kernel_rfl) S0 (fun _ _ _ h => h) ?_
        simp only [Act.put, List.setIfInBounds_toArray, List.set_cons_zero, List.set_cons_succ]
        refine any_comes (i := 12) (by kernel_rfl) (op_enter 13 #[.agg #[.int .i64 a, .slice A n c, .int .i64 k, .string t1, .string t2, .int .i64 z, .string t3]] (some 59) rfl (by kernel_rfl) (by kernel_rfl) (by kernel_rfl) ((HC0n.out V0 S0.s.below).mono ?_))
        rintro e z1 ⟨rfl, e1⟩
        have S1 : PuV w z1 R0 R1 v9 v11 v13 (#[.int .i64 a, .slice A n c, .int .i64 k, .string t1, .string t2, .int .i64 z, .string t3]) (#[.int .i64 a', .slice C m d, .int .i64 k', .string t1', .string t2', .int .i64 z', .string t3']) (#[.int .i64 ag, .slice X ng cg, .int .i64 kg, .string g1, .string g2, .int .i64 zg, .string g3]) id A5 A7 A11 A13 0 c11 c13 [] X lg := PuV.up S0 e1
        refine ⟨_, rfl, S1, ?_⟩
        simp only [Act.put, List.setIfInBounds_toArray, List.set_cons_zero, List.set_cons_succ]
        refine take_d (i := 14) (.bool true) 61 rfl (by kernel_rfl) (by kernel_rfl) (by kernel_rfl) (by kernel_rfl) rfl (by kernel_rfl) (by kernel_rfl) (fun W hW => ieql_runU (.tmp 59) (.tmp 60) y (by kernel_rfl) (by kernel_rfl) (by kernel_rfl)) S1 (fun _ _ _ h => h) ?_
        simp only [Act.put, List.setIfInBounds_toArray, List.set_cons_zero, List.set_cons_succ]
        refine take_d (i := 15) (.bool true) 62 rfl (by kernel_rfl) (by kernel_rfl) (by kernel_rfl) (by kernel_rfl) rfl (by kernel_rfl) (by kernel_rfl) (fun W hW => by kernel_rfl) S1 (fun _ _ _ h => h) ?_
        simp only [Act.put, List.setIfInBounds_toArray, List.set_cons_zero, List.set_cons_succ]
        refine take_d (i := 16) (.bool true) 63 rfl (by kernel_rfl) (by kernel_rfl) (by kernel_rfl) (by kernel_rfl) rfl (by kernel_rfl) (by kernel_rfl) (fun W hW => by kernel_rfl) S1 (fun _ _ _ h => h) ?_
        simp only [Act.put, List.setIfInBounds_toArray, List.set_cons_zero, List.set_cons_succ]
        refine take_d (i := 17) (.slice A5 0 c5) 64 rfl (by kernel_rfl) (by kernel_rfl) (by kernel_rfl) (by kernel_rfl) rfl (by kernel_rfl) (by kernel_rfl) (fun W hW => by kernel_rfl) S1 (fun _ _ _ h => h) ?_
        simp only [Act.put, List.setIfInBounds_toArray, List.set_cons_zero, List.set_cons_succ]
        refine take_d (i := 18) (.int .i64 0) 65 rfl (by kernel_rfl) (by kernel_rfl) (by kernel_rfl) (by kernel_rfl) rfl (by kernel_rfl) (by kernel_rfl) (fun W hW => by kernel_rfl) S1 (fun _ _ _ h => h) ?_
        simp only [Act.put, List.setIfInBounds_toArray, List.set_cons_zero, List.set_cons_succ]
        refine take_d (i := 19) (.bool true) 66 rfl (by kernel_rfl) (by kernel_rfl) (by kernel_rfl) (by kernel_rfl) rfl (by kernel_rfl) (by kernel_rfl) (fun W hW => by kernel_rfl) S1 (fun _ _ _ h => h) ?_
        simp only [Act.put, List.setIfInBounds_toArray, List.set_cons_zero, List.set_cons_succ]
        refine take_d (i := 20) (.bool true) 67 rfl (by kernel_rfl) (by kernel_rfl) (by kernel_rfl) (by kernel_rfl) rfl (by kernel_rfl) (by kernel_rfl) (fun W hW => by kernel_rfl) S1 (fun _ _ _ h => h) ?_
        simp only [Act.put, List.setIfInBounds_toArray, List.set_cons_zero, List.set_cons_succ]
        refine take_d (i := 21) (.bool true) 68 rfl (by kernel_rfl) (by kernel_rfl) (by kernel_rfl) (by kernel_rfl) rfl (by kernel_rfl) (by kernel_rfl) (fun W hW => by kernel_rfl) S1 (fun _ _ _ h => h) ?_
        simp only [Act.put, List.setIfInBounds_toArray, List.set_cons_zero, List.set_cons_succ]
        refine take_d (i := 22) (.int .i64 y) 69 rfl (by kernel_rfl) (by kernel_rfl) (by kernel_rfl) (by kernel_rfl) rfl (by kernel_rfl) (by kernel_rfl) (fun W hW => by kernel_rfl) S1 (fun _ _ _ h => h) ?_
        simp only [Act.put, List.setIfInBounds_toArray, List.set_cons_zero, List.set_cons_succ]
        refine take_d (i := 23) (.bool true) 70 rfl (by kernel_rfl) (by kernel_rfl) (by kernel_rfl) (by kernel_rfl) rfl (by kernel_rfl) (by kernel_rfl) (fun W hW => ineq_runU (.tmp 69) (.const (.int .i64 0)) y 0 hy0 (by kernel_rfl) (by kernel_rfl) (by kernel_rfl)) S1 (fun _ _ _ h => h) ?_
        simp only [Act.put, List.setIfInBounds_toArray, List.set_cons_zero, List.set_cons_succ]
        refine take_d (i := 24) (.bool true) 71 rfl (by kernel_rfl) (by kernel_rfl) (by kernel_rfl) (by kernel_rfl) rfl (by kernel_rfl) (by kernel_rfl) (fun W hW => by kernel_rfl) S1 (fun _ _ _ h => h) ?_
        simp only [Act.put, List.setIfInBounds_toArray, List.set_cons_zero, List.set_cons_succ]
        refine skip_d (i := 25) 72 rfl (by kernel_rfl) (by kernel_rfl) (by kernel_rfl) (by kernel_rfl) rfl (by kernel_rfl) (by kernel_rfl) S1 (fun _ _ _ h => h) ?_
        simp only [Act.put, List.setIfInBounds_toArray, List.set_cons_zero, List.set_cons_succ]
        refine skip_d (i := 26) 73 rfl (by kernel_rfl) (by kernel_rfl) (by kernel_rfl) (by kernel_rfl) rfl (by kernel_rfl) (by kernel_rfl) S1 (fun _ _ _ h => h) ?_
        simp only [Act.put, List.setIfInBounds_toArray, List.set_cons_zero, List.set_cons_succ]
        refine skip_d (i := 27) 74 rfl (by kernel_rfl) (by kernel_rfl) (by kernel_rfl) (by kernel_rfl) rfl (by kernel_rfl) (by kernel_rfl) S1 (fun _ _ _ h => h) ?_
        simp only [Act.put, List.setIfInBounds_toArray, List.set_cons_zero, List.set_cons_succ]
        refine skip_d (i := 28) 75 rfl (by kernel_rfl) (by kernel_rfl) (by kernel_rfl) (by kernel_rfl) rfl (by kernel_rfl) (by kernel_rfl) S1 (fun _ _ _ h => h) ?_
        simp only [Act.put, List.setIfInBounds_toArray, List.set_cons_zero, List.set_cons_succ]
        refine skip_d (i := 29) 76 rfl (by kernel_rfl) (by kernel_rfl) (by kernel_rfl) (by kernel_rfl) rfl (by kernel_rfl) (by kernel_rfl) S1 (fun _ _ _ h => h) ?_
        simp only [Act.put, List.setIfInBounds_toArray, List.set_cons_zero, List.set_cons_succ]
        refine skip_d (i := 30) 77 rfl (by kernel_rfl) (by kernel_rfl) (by kernel_rfl) (by kernel_rfl) rfl (by kernel_rfl) (by kernel_rfl) S1 (fun _ _ _ h => h) ?_
        simp only [Act.put, List.setIfInBounds_toArray, List.set_cons_zero, List.set_cons_succ]
        refine skip_d (i := 31) 78 rfl (by kernel_rfl) (by kernel_rfl) (by kernel_rfl) (by kernel_rfl) rfl (by kernel_rfl) (by kernel_rfl) S1 (fun _ _ _ h => h) ?_
        simp only [Act.put, List.setIfInBounds_toArray, List.set_cons_zero, List.set_cons_succ]
        refine take_d (i := 32) (.bool true) 79 rfl (by kernel_rfl) (by kernel_rfl) (by kernel_rfl) (by kernel_rfl) rfl (by kernel_rfl) (by kernel_rfl) (fun W hW => by kernel_rfl) S1 (fun _ _ _ h => h) ?_
        simp only [Act.put, List.setIfInBounds_toArray, List.set_cons_zero, List.set_cons_succ]
        refine take_d (i := 33) (.bool true) 80 rfl (by kernel_rfl) (by kernel_rfl) (by kernel_rfl) (by kernel_rfl) rfl (by kernel_rfl) (by kernel_rfl) (fun W hW => by kernel_rfl) S1 (fun _ _ _ h => h) ?_
        simp only [Act.put, List.setIfInBounds_toArray, List.set_cons_zero, List.set_cons_succ]
        refine take_d (i := 34) (.bool true) 81 rfl (by kernel_rfl) (by kernel_rfl) (by kernel_rfl) (by kernel_rfl) rfl (by kernel_rfl) (by kernel_rfl) (fun W hW => by kernel_rfl) S1 (fun _ _ _ h => h) ?_
        simp only [Act.put, List.setIfInBounds_toArray, List.set_cons_zero, List.set_cons_succ]
        refine take_d (i := 35) (.int .i64 y) 82 rfl (by kernel_rfl) (by kernel_rfl) (by kernel_rfl) (by kernel_rfl) rfl (by kernel_rfl) (by kernel_rfl) (fun W hW => by kernel_rfl) S1 (fun _ _ _ h => h) ?_
        simp only [Act.put, List.setIfInBounds_toArray, List.set_cons_zero, List.set_cons_succ]
        refine take_d (i := 36) (.int .i64 y) 83 rfl (by kernel_rfl) (by kernel_rfl) (by kernel_rfl) (by kernel_rfl) rfl (by kernel_rfl) (by kernel_rfl) (fun W hW => by kernel_rfl) S1 (fun _ _ _ h => h) ?_
        simp only [Act.put, List.setIfInBounds_toArray, List.set_cons_zero, List.set_cons_succ]
        refine take_d (i := 37) (.bool true) 84 rfl (by kernel_rfl) (by kernel_rfl) (by kernel_rfl) (by kernel_rfl) rfl (by kernel_rfl) (by kernel_rfl) (fun W hW => ieql_runU (.tmp 82) (.tmp 83) y (by kernel_rfl) (by kernel_rfl) (by kernel_rfl)) S1 (fun _ _ _ h => h) ?_
        simp only [Act.put, List.setIfInBounds_toArray, List.set_cons_zero, List.set_cons_succ]
        refine take_d (i := 38) (.bool true) 85 rfl (by kernel_rfl) (by kernel_rfl) (by kernel_rfl) (by kernel_rfl) rfl (by kernel_rfl) (by kernel_rfl) (fun W hW => by kernel_rfl) S1 (fun _ _ _ h => h) ?_
        simp only [Act.put, List.setIfInBounds_toArray, List.set_cons_zero, List.set_cons_succ]
        refine take_d (i := 39) (.bool true) 86 rfl (by kernel_rfl) (by kernel_rfl) (by kernel_rfl) (by kernel_rfl) rfl (by kernel_rfl) (by kernel_rfl) (fun W hW => by kernel_rfl) S1 (fun _ _ _ h => h) ?_
        simp only [Act.put, List.setIfInBounds_toArray, List.set_cons_zero, List.set_cons_succ]
        refine take_d (i := 40) (.pointer (some ⟨v11, 0, none⟩)) 87 rfl (by kernel_rfl) (by kernel_rfl) (by kernel_rfl) (by kernel_rfl) rfl (by kernel_rfl) (by kernel_rfl) (fun W hW => by kernel_rfl) S1 (fun _ _ _ h => h) ?_
        simp only [Act.put, List.setIfInBounds_toArray, List.set_cons_zero, List.set_cons_succ]
        refine take_d (i := 41) (.string id) 88 rfl (by kernel_rfl) (by kernel_rfl) (by kernel_rfl) (by kernel_rfl) rfl (by kernel_rfl) (by kernel_rfl) (fun W hW => cell_run 9 (.tmp 87) ⟨v11, 0, none⟩ (.string id) _ (by kernel_rfl) (by kernel_rfl) (blk2A hW.i11).1 Tryd.underlying9 rfl (by kernel_rfl)) S1 (fun _ _ _ h => h) ?_
        simp only [Act.put, List.setIfInBounds_toArray, List.set_cons_zero, List.set_cons_succ]
        refine take_d (i := 42) (.pointer (some ⟨v13, 0, none⟩)) 89 rfl (by kernel_rfl) (by kernel_rfl) (by kernel_rfl) (by kernel_rfl) rfl (by kernel_rfl) (by kernel_rfl) (fun W hW => by kernel_rfl) S1 (fun _ _ _ h => h) ?_
        simp only [Act.put, List.setIfInBounds_toArray, List.set_cons_zero, List.set_cons_succ]
        refine take_d (i := 43) (.string id) 90 rfl (by kernel_rfl) (by kernel_rfl) (by kernel_rfl) (by kernel_rfl) rfl (by kernel_rfl) (by kernel_rfl) (fun W hW => cell_run 9 (.tmp 89) ⟨v13, 0, none⟩ (.string id) _ (by kernel_rfl) (by kernel_rfl) (blk2A hW.i13).1 Tryd.underlying9 rfl (by kernel_rfl)) S1 (fun _ _ _ h => h) ?_
        simp only [Act.put, List.setIfInBounds_toArray, List.set_cons_zero, List.set_cons_succ]
        refine take_d (i := 44) (.bool true) 91 rfl (by kernel_rfl) (by kernel_rfl) (by kernel_rfl) (by kernel_rfl) rfl (by kernel_rfl) (by kernel_rfl) (fun W hW => seql_runO (.tmp 88) (.tmp 90) id (by kernel_rfl) (by kernel_rfl) (by kernel_rfl)) S1 (fun _ _ _ h => h) ?_
        simp only [Act.put, List.setIfInBounds_toArray, List.set_cons_zero, List.set_cons_succ]
        refine take_d (i := 45) (.bool true) 92 rfl (by kernel_rfl) (by kernel_rfl) (by kernel_rfl) (by kernel_rfl) rfl (by kernel_rfl) (by kernel_rfl) (fun W hW => by kernel_rfl) S1 (fun _ _ _ h => h) ?_
        simp only [Act.put, List.setIfInBounds_toArray, List.set_cons_zero, List.set_cons_succ]
        refine take_d (i := 46) (.bool true) 93 rfl (by kernel_rfl) (by kernel_rfl) (by kernel_rfl) (by kernel_rfl) rfl (by kernel_rfl) (by kernel_rfl) (fun W hW => by kernel_rfl) S1 (fun _ _ _ h => h) ?_
        simp only [Act.put, List.setIfInBounds_toArray, List.set_cons_zero, List.set_cons_succ]
        refine take_d (i := 47) (.pointer (some ⟨v11, 1, none⟩)) 94 rfl (by kernel_rfl) (by kernel_rfl) (by kernel_rfl) (by kernel_rfl) rfl (by kernel_rfl) (by kernel_rfl) (fun W hW => by kernel_rfl) S1 (fun _ _ _ h => h) ?_
        simp only [Act.put, List.setIfInBounds_toArray, List.set_cons_zero, List.set_cons_succ]
        refine take_d (i := 48) (.slice A11 0 c11) 95 rfl (by kernel_rfl) (by kernel_rfl) (by kernel_rfl) (by kernel_rfl) rfl (by kernel_rfl) (by kernel_rfl) (fun W hW => cell_run 29 (.tmp 94) ⟨v11, 1, none⟩ (.slice A11 0 c11) _ (by kernel_rfl) (by kernel_rfl) (blk2A hW.i11).2 Tryd.underlying29 rfl (by kernel_rfl)) S1 (fun _ _ _ h => h) ?_
        simp only [Act.put, List.setIfInBounds_toArray, List.set_cons_zero, List.set_cons_succ]
        refine take_d (i := 49) (.string sp) 96 rfl (by kernel_rfl) (by kernel_rfl) (by kernel_rfl) (by kernel_rfl) rfl (by kernel_rfl) (by kernel_rfl) (fun W hW => str_runO (.tmp 95) A11 0 c11 sp (by kernel_rfl) (by kernel_rfl) (hcv W hW).2.2.1) S1 (fun _ _ _ h => h) ?_
        simp only [Act.put, List.setIfInBounds_toArray, List.set_cons_zero, List.set_cons_succ]
        refine take_d (i := 50) (.pointer (some ⟨v13, 1, none⟩)) 97 rfl (by kernel_rfl) (by kernel_rfl) (by kernel_rfl) (by kernel_rfl) rfl (by kernel_rfl) (by kernel_rfl) (fun W hW => by kernel_rfl) S1 (fun _ _ _ h => h) ?_
        simp only [Act.put, List.setIfInBounds_toArray, List.set_cons_zero, List.set_cons_succ]
        refine take_d (i := 51) (.slice A13 0 c13) 98 rfl (by kernel_rfl) (by kernel_rfl) (by kernel_rfl) (by kernel_rfl) rfl (by kernel_rfl) (by kernel_rfl) (fun W hW => cell_run 29 (.tmp 97) ⟨v13, 1, none⟩ (.slice A13 0 c13) _ (by kernel_rfl) (by kernel_rfl) (blk2A hW.i13).2 Tryd.underlying29 rfl (by kernel_rfl)) S1 (fun _ _ _ h => h) ?_
        simp only [Act.put, List.setIfInBounds_toArray, List.set_cons_zero, List.set_cons_succ]
        refine take_d (i := 52) (.string sp) 99 rfl (by kernel_rfl) (by kernel_rfl) (by kernel_rfl) (by kernel_rfl) rfl (by kernel_rfl) (by kernel_rfl) (fun W hW => str_runO (.tmp 98) A13 0 c13 sp (by kernel_rfl) (by kernel_rfl) (hcv W hW).2.2.2) S1 (fun _ _ _ h => h) ?_
        simp only [Act.put, List.setIfInBounds_toArray, List.set_cons_zero, List.set_cons_succ]
        refine take_d (i := 53) (.bool true) 100 rfl (by kernel_rfl) (by kernel_rfl) (by kernel_rfl) (by kernel_rfl) rfl (by kernel_rfl) (by kernel_rfl) (fun W hW => seql_runO (.tmp 96) (.tmp 99) sp (by kernel_rfl) (by kernel_rfl) (by kernel_rfl)) S1 (fun _ _ _ h => h) ?_
        simp only [Act.put, List.setIfInBounds_toArray, List.set_cons_zero, List.set_cons_succ]
        refine take_d (i := 54) (.bool true) 101 rfl (by kernel_rfl) (by kernel_rfl) (by kernel_rfl) (by kernel_rfl) rfl (by kernel_rfl) (by kernel_rfl) (fun W hW => by kernel_rfl) S1 (fun _ _ _ h => h) ?_
        simp only [Act.put, List.setIfInBounds_toArray, List.set_cons_zero, List.set_cons_succ]
        refine take_d (i := 55) (.bool true) 102 rfl (by kernel_rfl) (by kernel_rfl) (by kernel_rfl) (by kernel_rfl) rfl (by kernel_rfl) (by kernel_rfl) (fun W hW => by kernel_rfl) S1 (fun _ _ _ h => h) ?_
        simp only [Act.put, List.setIfInBounds_toArray, List.set_cons_zero, List.set_cons_succ]
        refine take_d (i := 56) (.agg #[.int .i64 a, .slice A n c, .int .i64 k, .string t1, .string t2, .int .i64 z, .string t3]) 103 rfl (by kernel_rfl) (by kernel_rfl) (by kernel_rfl) (by kernel_rfl) rfl (by kernel_rfl) (by kernel_rfl) (fun W hW => load_run 26 (.tmp 2) R0 0 [.int .i64 a, .slice A n c, .int .i64 k, .string t1, .string t2, .int .i64 z, .string t3] _ (by kernel_rfl) (by kernel_rfl) (blk_range7 hW.s.u0) Tryd.underlying26 rfl (by kernel_rfl) #[.int .i64 a, .slice A n c, .int .i64 k, .string t1, .string t2, .int .i64 z, .string t3] rfl) S1 (fun _ _ _ h => h) ?_
        simp only [Act.put, List.setIfInBounds_toArray, List.set_cons_zero, List.set_cons_succ]
        refine take_d (i := 57) (.agg #[.int .i64 a', .slice C m d, .int .i64 k', .string t1', .string t2', .int .i64 z', .string t3']) 104 rfl (by kernel_rfl) (by kernel_rfl) (by kernel_rfl) (by kernel_rfl) rfl (by kernel_rfl) (by kernel_rfl) (fun W hW => load_run 26 (.tmp 3) R1 0 [.int .i64 a', .slice C m d, .int .i64 k', .string t1', .string t2', .int .i64 z', .string t3'] _ (by kernel_rfl) (by kernel_rfl) (blk_range7 hW.s.u1) Tryd.underlying26 rfl (by kernel_rfl) #[.int .i64 a', .slice C m d, .int .i64 k', .string t1', .string t2', .int .i64 z', .string t3'] rfl) S1 (fun _ _ _ h => h) ?_
        simp only [Act.put, List.setIfInBounds_toArray, List.set_cons_zero, List.set_cons_succ]
        refine take_d (i := 59) (.agg #[.int .i64 a, .slice A n c, .int .i64 k, .string t1, .string t2, .int .i64 z, .string t3]) 106 rfl (by kernel_rfl) (by kernel_rfl) (by kernel_rfl) (by kernel_rfl) rfl (by kernel_rfl) (by kernel_rfl) (fun W hW => load_run 26 (.tmp 2) R0 0 [.int .i64 a, .slice A n c, .int .i64 k, .string t1, .string t2, .int .i64 z, .string t3] _ (by kernel_rfl) (by kernel_rfl) (blk_range7 hW.s.u0) Tryd.underlying26 rfl (by kernel_rfl) #[.int .i64 a, .slice A n c, .int .i64 k, .string t1, .string t2, .int .i64 z, .string t3] rfl) S1 (fun _ _ _ h => h) ?_
        simp only [Act.put, List.setIfInBounds_toArray, List.set_cons_zero, List.set_cons_succ]
        refine take_d (i := 60) (.agg #[.int .i64 a', .slice C m d, .int .i64 k', .string t1', .string t2', .int .i64 z', .string t3']) 107 rfl (by kernel_rfl) (by kernel_rfl) (by kernel_rfl) (by kernel_rfl) rfl (by kernel_rfl) (by kernel_rfl) (fun W hW => load_run 26 (.tmp 3) R1 0 [.int .i64 a', .slice C m d, .int .i64 k', .string t1', .string t2', .int .i64 z', .string t3'] _ (by kernel_rfl) (by kernel_rfl) (blk_range7 hW.s.u1) Tryd.underlying26 rfl (by kernel_rfl) #[.int .i64 a', .slice C m d, .int .i64 k', .string t1', .string t2', .int .i64 z', .string t3'] rfl) S1 (fun _ _ _ h => h) ?_
        simp only [Act.put, List.setIfInBounds_toArray, List.set_cons_zero, List.set_cons_succ]
        refine any_comes (i := 58) (by kernel_rfl) (op_enter 15 #[.agg #[.int .i64 a, .slice A n c, .int .i64 k, .string t1, .string t2, .int .i64 z, .string t3], .agg #[.int .i64 a', .slice C m d, .int .i64 k', .string t1', .string t2', .int .i64 z', .string t3']] (some 105) rfl (by kernel_rfl) (by kernel_rfl) (by kernel_rfl) ((HS0n.out z1 S1.s.below).mono ?_))
        rintro e z2 ⟨rfl, e2⟩
        have S2 : PuV w z2 R0 R1 v9 v11 v13 (#[.int .i64 a, .slice A n c, .int .i64 k, .string t1, .string t2, .int .i64 z, .string t3]) (#[.int .i64 a', .slice C m d, .int .i64 k', .string t1', .string t2', .int .i64 z', .string t3']) (#[.int .i64 ag, .slice X ng cg, .int .i64 kg, .string g1, .string g2, .int .i64 zg, .string g3]) id A5 A7 A11 A13 0 c11 c13 [] X lg := PuV.up S1 e2
        refine ⟨_, rfl, S2, ?_⟩
        simp only [Act.put, List.setIfInBounds_toArray, List.set_cons_zero, List.set_cons_succ]
        refine any_comes (i := 61) (by kernel_rfl) (op_enter 14 #[.agg #[.int .i64 a, .slice A n c, .int .i64 k, .string t1, .string t2, .int .i64 z, .string t3], .agg #[.int .i64 a', .slice C m d, .int .i64 k', .string t1', .string t2', .int .i64 z', .string t3']] (some 108) rfl (by kernel_rfl) (by kernel_rfl) (by kernel_rfl) ((HS1n.out z2 S2.s.below).mono ?_))
        rintro e z3 ⟨rfl, e3⟩
        have S3 : PuV w z3 R0 R1 v9 v11 v13 (#[.int .i64 a, .slice A n c, .int .i64 k, .string t1, .string t2, .int .i64 z, .string t3]) (#[.int .i64 a', .slice C m d, .int .i64 k', .string t1', .string t2', .int .i64 z', .string t3']) (#[.int .i64 ag, .slice X ng cg, .int .i64 kg, .string g1, .string g2, .int .i64 zg, .string g3]) id A5 A7 A11 A13 0 c11 c13 [] X lg := PuV.up S2 e3
        refine ⟨_, rfl, S3, ?_⟩
        simp only [Act.put, List.setIfInBounds_toArray, List.set_cons_zero, List.set_cons_succ]
        refine take_d (i := 62) (.bool true) 109 rfl (by kernel_rfl) (by kernel_rfl) (by kernel_rfl) (by kernel_rfl) rfl (by kernel_rfl) (by kernel_rfl) (fun W hW => beql_runO (.tmp 105) (.tmp 108) uv (by kernel_rfl) (by kernel_rfl) (by kernel_rfl)) S3 (fun _ _ _ h => h) ?_
        simp only [Act.put, List.setIfInBounds_toArray, List.set_cons_zero, List.set_cons_succ]
        refine take_d (i := 63) (.bool true) 110 rfl (by kernel_rfl) (by kernel_rfl) (by kernel_rfl) (by kernel_rfl) rfl (by kernel_rfl) (by kernel_rfl) (fun W hW => by kernel_rfl) S3 (fun _ _ _ h => h) ?_
        simp only [Act.put, List.setIfInBounds_toArray, List.set_cons_zero, List.set_cons_succ]
        refine take_d (i := 64) (.bool true) 111 rfl (by kernel_rfl) (by kernel_rfl) (by kernel_rfl) (by kernel_rfl) rfl (by kernel_rfl) (by kernel_rfl) (fun W hW => by kernel_rfl) S3 (fun _ _ _ h => h) ?_
        simp only [Act.put, List.setIfInBounds_toArray, List.set_cons_zero, List.set_cons_succ]
        refine any_comes (i := 65) (by kernel_rfl) (op_enter 7 #[] (some 112) rfl (by kernel_rfl) (by kernel_rfl) (by kernel_rfl) ((HAw.out z3 S3.s.below).mono ?_))
        rintro e z4 ⟨rfl, e4⟩
        have S4 : PuV w z4 R0 R1 v9 v11 v13 (#[.int .i64 a, .slice A n c, .int .i64 k, .string t1, .string t2, .int .i64 z, .string t3]) (#[.int .i64 a', .slice C m d, .int .i64 k', .string t1', .string t2', .int .i64 z', .string t3']) (#[.int .i64 ag, .slice X ng cg, .int .i64 kg, .string g1, .string g2, .int .i64 zg, .string g3]) id A5 A7 A11 A13 0 c11 c13 [] X lg := PuV.up S3 e4
        refine ⟨_, rfl, S4, ?_⟩
        simp only [Act.put, List.setIfInBounds_toArray, List.set_cons_zero, List.set_cons_succ]
        refine take_d (i := 66) (.bool true) 113 rfl (by kernel_rfl) (by kernel_rfl) (by kernel_rfl) (by kernel_rfl) rfl (by kernel_rfl) (by kernel_rfl) (fun W hW => by kernel_rfl) S4 (fun _ _ _ h => h) ?_
        simp only [Act.put, List.setIfInBounds_toArray, List.set_cons_zero, List.set_cons_succ]
        refine any_left (by kernel_rfl) ?_
        refine wpAny_tail 67 (by kernel_rfl) (by kernel_rfl) ?_
        simp only [List.append, List.append_eq, List.drop_succ_cons, List.drop_zero]
        go_wp2
        go_ret
        exact ⟨rfl, by first | exact S4.s.below | exact S4.s.below.drew⟩
end
section
open Go.RowKit
structure GuV (w W : World) (v3 v5 v9 : Nat) (a : Int) (l : List Bs) (q : Nat) (k : Int) (t1 t2 : ByteArray) (z : Int) (t3 : ByteArray) (X3 : Option Addr) (c3 : Nat) (X5 : Option Addr) (c5 : Nat) (id : ByteArray) (A9 : Option Addr) (n c9 : Nat) (A7 : Option Addr) (PB : List UInt8) (A : Option Addr) (b : List UInt8) : Prop where
  below : Below w.heap.size w W
  u3 : Blk W v3 26 #[.int .i64 a, .slice X3 q c3, .int .i64 k, .string t1, .string t2, .int .i64 z, .string t3]
  u5 : Blk W v5 26 #[.int .i64 a, .slice X5 q c5, .int .i64 k, .string t1, .string t2, .int .i64 z, .string t3]
  i9 : Blk W v9 36 #[.string id, .slice A9 n c9]
  rp : RB W W.heap.size A7 PB
  r9 : RB W W.heap.size A9 b
  rb : RB W W.heap.size A b
  s3 : SS W W.heap.size X3 l
  s5 : SS W W.heap.size X5 l
theorem ssUp {w w' : World} {A : Option Addr} {L : List Bs} (h : SS w w.heap.size A L) (hb : Below w.heap.size w w') : SS w' w'.heap.size A L := (h.below hb).more hb.size
section
variable {w W W' : World} {v3 v5 v9 : Nat} {a : Int} {l : List Bs} {q : Nat} {k : Int} {t1 t2 : ByteArray} {z : Int} {t3 : ByteArray} {X3 : Option Addr} {c3 : Nat} {X5 : Option Addr} {c5 : Nat} {id : ByteArray} {A9 : Option Addr} {n c9 : Nat} {A7 : Option Addr} {PB : List UInt8} {A : Option Addr} {b : List UInt8}
theorem GuV.up (h : GuV w W v3 v5 v9 a l q k t1 t2 z t3 X3 c3 X5 c5 id A9 n c9 A7 PB A b) (hb : Below W.heap.size W W') : GuV w W' v3 v5 v9 a l q k t1 t2 z t3 X3 c3 X5 c5 id A9 n c9 A7 PB A b :=
  ⟨h.below.trans (hb.mono h.below.size), blkUpA h.u3 hb, blkUpA h.u5 hb, blkUpA h.i9 hb, rb_up7 h.rp hb, rb_up7 h.r9 hb, rb_up7 h.rb hb, ssUp h.s3 hb, ssUp h.s5 hb⟩
theorem GuV.held (p7 c7 c : Nat) (sp sb : ByteArray) (hp : p7 = PB.length) (hn : n = b.length) (hsp : ({ data := PB.toArray } : ByteArray) = sp) (hsb : ({ data := b.toArray } : ByteArray) = sb) (h : GuV w W v3 v5 v9 a l q k t1 t2 z t3 X3 c3 X5 c5 id A9 n c9 A7 PB A b) : W.cell? ⟨v3, 0, none⟩ = some (.int .i64 a) ∧ W.cell? ⟨v3, 1, none⟩ = some (.slice X3 q c3) ∧ W.cell? ⟨v3, 2, none⟩ = some (.int .i64 k) ∧ W.cell? ⟨v3, 3, none⟩ = some (.string t1) ∧ W.cell? ⟨v3, 4, none⟩ = some (.string t2) ∧ W.cell? ⟨v3, 5, none⟩ = some (.int .i64 z) ∧ W.cell? ⟨v3, 6, none⟩ = some (.string t3) ∧ W.cell? ⟨v5, 0, none⟩ = some (.int .i64 a) ∧ W.cell? ⟨v5, 1, none⟩ = some (.slice X5 q c5) ∧ W.cell? ⟨v5, 2, none⟩ = some (.int .i64 k) ∧ W.cell? ⟨v5, 3, none⟩ = some (.string t1) ∧ W.cell? ⟨v5, 4, none⟩ = some (.string t2) ∧ W.cell? ⟨v5, 5, none⟩ = some (.int .i64 z) ∧ W.cell? ⟨v5, 6, none⟩ = some (.string t3) ∧ W.cell? ⟨v9, 0, none⟩ = some (.string id) ∧ W.cell? ⟨v9, 1, none⟩ = some (.slice A9 n c9) ∧ (convert 29 9 (.slice A7 p7 c7)).run Tryd.prog W = .ok (.string sp) W ∧ (convert 29 9 (.slice A9 n c9)).run Tryd.prog W = .ok (.string sb) W ∧ (convert 29 9 (.slice A n c)).run Tryd.prog W = .ok (.string sb) W := by
  obtain ⟨p0, p1, p2, p3, p4, p5, p6⟩ := blk7A h.u3
  obtain ⟨g0, g1, g2, g3, g4, g5, g6⟩ := blk7A h.u5
  obtain ⟨d0, d1⟩ := blk2A h.i9
  subst hsp hsb
  exact ⟨p0, p1, p2, p3, p4, p5, p6, g0, g1, g2, g3, g4, g5, g6, d0, d1, aw_str h.rp p7 c7 hp, aw_str h.r9 n c9 hn, aw_str h.rb n c hn⟩
end
theorem zero_small : Upd.zero.preds.length ≤ 1000 ∧ Upd.zero.op.name.length ≤ 1000000 ∧ Upd.zero.op.text.length ≤ 1000000 := by decide
theorem ok_small {u : Upd} (h : u.Ok) : u.preds.length ≤ 1000 ∧ u.op.name.length ≤ 1000000 ∧ u.op.text.length ≤ 1000000 := by
  have h1 := h.few
  obtain ⟨l1, l2, l3, hz⟩ := may_parts (k := u.op.kind) (z := u.op.n) (nm := u.op.name) (tx := u.op.text) (a := u.op.at_) h.op
  exact ⟨by omega, by omega, by omega⟩
theorem upgets_any (b : List UInt8) (A : Option Addr) (c : Nat) (w : World) (hT : Tab w) (hr : RB w w.heap.size A b) (hc : b.length ≤ c) (hcm : c ≤ 9223372036854775807) :
    Calls Tryd.prog 4 #[.slice A b.length c] w fun e w' => e = .returned (.bool true) ∧ Below w.heap.size w w' := by
  have HAw : Hid (∀ W, Below w.heap.size w W → Calls Tryd.prog 7 #[] W fun e w' => e = .returned (.bool true) ∧ Below W.heap.size W w') := fun W hb => awake15_any W (Tab.below hT hb)
  obtain ⟨n, hn⟩ : ∃ n, n = b.length := ⟨_, rfl⟩
  rw [← hn] at hc ⊢
  by_cases hbig : 600 < n
  · have d1 : decide ((n : Int) > 600) = true := decide_eq_true (by omega)
    have d1' : decide ((600 : Int) < (n : Int)) = true := decide_eq_true (by omega)
    have B0 := Lib.hid (Below.refl w.heap.size w)
    clear hbig hn hr hT
    go_enter Tryd.func4, Tryd.ntmps4
    go_wp2_with (first
      | (go_at_call 7; (with_reducible refine (HAw.out _ B0.out).mono ?_); rintro e w2 ⟨rfl, b2⟩))
    go_ret
    exact ⟨rfl, b2⟩
  · have d1 : decide ((n : Int) > 600) = false := decide_eq_false (by omega)
    have d1' : decide ((600 : Int) < (n : Int)) = false := decide_eq_false (by omega)
    obtain ⟨r, hr0⟩ := getsU_ex b
    obtain ⟨u, hu⟩ : ∃ u, u = r.getD Upd.zero := ⟨_, rfl⟩
    have hsm : u.preds.length ≤ 1000 ∧ u.op.name.length ≤ 1000000 ∧ u.op.text.length ≤ 1000000 := by
      rw [hu]
      rcases r with _ | v
      · exact zero_small
      · exact ok_small hr0.1
    obtain ⟨y, hy⟩ : ∃ y, y = errGU b r := ⟨_, rfl⟩
    have hcase : (y = 0 ∧ u.check = 0 ∧ u.out = b) ∨ ((y = 3 ∨ y = 5)) := by
      rcases r with _ | v
      · right
        rw [hy]
        unfold errGU
        split
        · exact .inl rfl
        · exact .inr rfl
      · left
        have h2 : v.check = 0 := Upd.check_ok.2 hr0.1
        have h3 : v.out = b := (if_pos h2).trans hr0.2
        rw [hu]
        refine ⟨?_, h2, h3⟩
        rw [hy]
        unfold errGU
        rw [if_neg (by rw [← hr0.2]; have := Upd.bytes_len hr0.1; omega)]
        rfl
    have HGp : Hid (∀ W, Below w.heap.size w W → Calls Tryd.prog 10 #[.slice A n c] W fun e w' => ∃ X d, e = .returned (.tuple #[updV u X d, .int .i64 y]) ∧ Hid (SS w' w'.heap.size X u.preds) ∧ Hid (u.preds.length ≤ d ∧ d ≤ 9223372036854775807) ∧ Hid (Below W.heap.size W w')) := fun W hb => (upget_known b r hr0 n A c W hn (rb_up7 hr hb) hc hcm (by omega)).mono fun e w' hh => by
      obtain ⟨X, d, q1, q2, q3, q4, q5⟩ := hh
      rw [← hu, ← hy] at q1
      rw [← hu] at q2 q3
      exact ⟨X, d, q1, q2, ⟨q3, q4⟩, q5⟩
    have HGr : Hid (∀ W, Below w.heap.size w W → Calls Tryd.prog 16 #[.slice A n c] W fun e w' => ∃ X d, e = .returned (.tuple #[updV u X d, .int .i64 y]) ∧ Hid (SS w' w'.heap.size X u.preds) ∧ Hid (u.preds.length ≤ d ∧ d ≤ 9223372036854775807) ∧ Hid (Below W.heap.size W w')) := fun W hb => (ruget_any b n A c W hn (rb_up7 hr hb) hc hcm).mono fun e w' hh => by
      obtain ⟨s, X, d, h1, q1, q2, q3, q4, q5⟩ := hh
      rw [GetsU.one h1 hr0] at q1 q2 q3
      rw [← hu, ← hy] at q1
      rw [← hu] at q2 q3
      exact ⟨X, d, q1, q2, ⟨q3, q4⟩, q5⟩
    have HPp : Hid (∀ X d W, SS W W.heap.size X u.preds → u.preds.length ≤ d → d ≤ 9223372036854775807 → Calls Tryd.prog 8 #[updV u X d] W fun e w' => ∃ C f, e = .returned (.tuple #[.slice C u.out.length f, .int .i64 u.check]) ∧ Hid (RB w' w'.heap.size C u.out) ∧ Hid (Below W.heap.size W w')) := fun X d W h1 h2 h3 => (upput_any u X d W h1 hsm.1 h2 h3 hsm.2.1 hsm.2.2).mono fun e w' hh => by
      obtain ⟨C, f, q1, q2, q3⟩ := hh
      exact ⟨C, f, q1, own_rb q2.out, q3⟩
    have HSm : Hid (∀ X d Y f W, SS W W.heap.size X u.preds → SS W W.heap.size Y u.preds → Calls Tryd.prog 14 #[updV u X d, updV u Y f] W fun e w' => e = .returned (.bool true) ∧ Below W.heap.size W w') := fun X d Y f W h1 h2 => by
      have h := rusame_any u u X Y d f W.heap.size W h1 h2 (Nat.le_refl _) (by omega) (by omega)
      rw [decide_eq_true rfl] at h
      exact h
    obtain ⟨id, hid⟩ : ∃ x, x = text (idL b) := ⟨_, rfl⟩
    have HIt : Hid (∀ W, Below w.heap.size w W → Calls Tryd.prog 17 #[.slice A n c] W fun e w' => ∃ C f, e = .returned (.agg #[.string id, .slice C n f]) ∧ Hid (RB w' w'.heap.size C b) ∧ Hid (Below W.heap.size W w')) := fun W hb => (upitem_any b n A c W (Tab.below hT hb) hn (rb_up7 hr hb) hc hcm (by omega)).mono fun e w' hh => by
      obtain ⟨C, f, q1, q2, q3⟩ := hh
      rw [← hid, ← hn] at q1
      exact ⟨C, f, q1, q2, q3⟩
    have HRI : Hid (∀ W, Below w.heap.size w W → Calls Tryd.prog 18 #[.slice A n c] W fun e w' => e = .returned (.string id) ∧ Below W.heap.size W w') := fun W hb => by
      rw [hid]
      exact refID_any b A c _ W (rb_up7 hr hb) n hn.symm (by omega)
    obtain ⟨sb, hsb⟩ : ∃ x : ByteArray, ({ data := b.toArray } : ByteArray) = x := ⟨_, rfl⟩
    obtain ⟨P, hP⟩ : ∃ P, P = u.out := ⟨_, rfl⟩
    obtain ⟨sp, hsp⟩ : ∃ x : ByteArray, ({ data := P.toArray } : ByteArray) = x := ⟨_, rfl⟩
    obtain ⟨p7, hp7⟩ : ∃ x, x = P.length := ⟨_, rfl⟩
    obtain ⟨f, hf⟩ : ∃ f, f = u.check := ⟨_, rfl⟩
    rw [← hP, ← hp7, ← hf] at HPp
    rw [← hP, ← hf] at hcase
    have HNn := Lib.hid hn
    have HSB := Lib.hid hsb
    have HSPp := Lib.hid hsp
    have HP7 := Lib.hid hp7
    have HR := Lib.hid hr
    clear hid hsb hP hsp hp7 hf hu hy hr0 hsm hT hr hbig hn
    obtain ⟨a, l, k, nm, tx, z, x⟩ := u
    obtain ⟨t1, h1⟩ : ∃ t, t = text nm := ⟨_, rfl⟩
    obtain ⟨t2, h2⟩ : ∃ t, t = text tx := ⟨_, rfl⟩
    obtain ⟨t3, h3⟩ : ∃ t, t = text x := ⟨_, rfl⟩
    obtain ⟨q, hq⟩ : ∃ q, q = l.length := ⟨_, rfl⟩
    have eV : ∀ X d, updV ⟨a, l, k, nm, tx, z, x⟩ X d = .agg #[.int .i64 a, .slice X q d, .int .i64 k, .string t1, .string t2, .int .i64 z, .string t3] := fun X d => by rw [h1, h2, h3, hq]; rfl
    simp only [eV] at HGp HGr HPp HSm
    rw [← hq] at HGp HGr HPp
    clear eV h1 h2 h3 hq
    have HB0 := Lib.hid (Below.refl w.heap.size w)
    have a26 := fun w' => Tryd.updAgg w'
    have s26 := fun w' => Tryd.updSize w'
    have a36 := fun w' => Tryd.itemAgg w'
    have s36 := fun w' => Tryd.itemSize w'
    go_enter Tryd.func4, Tryd.ntmps4
    go_upto_region 7 with (first
      | (go_at_call 17; (with_reducible refine (HIt.out _ B3.out).mono ?_); rintro e w4 ⟨A9, c9, rfl, r9, b4⟩)
      | (go_at_call 8; (with_reducible refine (HPp.out X3 c3 _ S2.out cap3.out.1 cap3.out.2).mono ?_); rintro e w3 ⟨A7, c7, rfl, r7, b3⟩; have B3 := Lib.hid (B2.out.trans (b3.out.mono B2.out.size)))
      | (go_at_call 16; (with_reducible refine (HGr.out _ B1.out).mono ?_); rintro e w2 ⟨X5, c5, rfl, ss5, cap5, b2⟩; have B2 := Lib.hid ((B1.out.trans (b2.out.mono B1.out.size)).alloc (Nat.le_trans B1.out.size b2.out.size) (.cells #[.int .i64 a, .slice X5 q c5, .int .i64 k, .string t1, .string t2, .int .i64 z, .string t3] 26)); have U2 := Lib.hid ((U1.out.below b2.out U1.out.lt).alloc (.cells #[.int .i64 a, .slice X5 q c5, .int .i64 k, .string t1, .string t2, .int .i64 z, .string t3] 26)); have F2 := Lib.hid (Blk.new w2 26 #[.int .i64 a, .slice X5 q c5, .int .i64 k, .string t1, .string t2, .int .i64 z, .string t3]); have S2 := Lib.hid (ssUp (ssUp S1.out b2.out) ((Below.refl _ _).alloc (Nat.le_refl _) (.cells #[.int .i64 a, .slice X5 q c5, .int .i64 k, .string t1, .string t2, .int .i64 z, .string t3] 26))); have T2 := Lib.hid (ssUp ss5.out ((Below.refl _ _).alloc (Nat.le_refl _) (.cells #[.int .i64 a, .slice X5 q c5, .int .i64 k, .string t1, .string t2, .int .i64 z, .string t3] 26))); obtain ⟨p0, p1, p2, p3, p4, p5, p6⟩ := blk7A U2.out)
      | (go_at_call 10; (with_reducible refine (HGp.out _ HB0.out).mono ?_); rintro e w1 ⟨X3, c3, rfl, ss3, cap3, b1⟩; have B1 := Lib.hid (b1.out.alloc b1.out.size (.cells #[.int .i64 a, .slice X3 q c3, .int .i64 k, .string t1, .string t2, .int .i64 z, .string t3] 26)); have U1 := Lib.hid (Blk.new w1 26 #[.int .i64 a, .slice X3 q c3, .int .i64 k, .string t1, .string t2, .int .i64 z, .string t3]); have S1 := Lib.hid (ssUp ss3.out ((Below.refl _ _).alloc (Nat.le_refl _) (.cells #[.int .i64 a, .slice X3 q c3, .int .i64 k, .string t1, .string t2, .int .i64 z, .string t3] 26)))))
    have P4 : Hid (GuV w (w4.alloc (.cells #[.string id, .slice A9 n c9] 36)) w1.heap.size w2.heap.size w4.heap.size a l q k t1 t2 z t3 X3 c3 X5 c5 id A9 n c9 A7 P A b) := by
      have n4 : Below w4.heap.size w4 (w4.alloc (.cells #[.string id, .slice A9 n c9] 36)) := (Below.refl _ _).alloc (Nat.le_refl _) _
      have B4 := (B3.out.trans (b4.out.mono B3.out.size))
      have B5 := B4.trans (n4.mono B4.size)
      exact ⟨B5, blkUpA (blkUpA (blkUpA U2.out b3.out) b4.out) n4, blkUpA (blkUpA (blkUpA F2.out b3.out) b4.out) n4, Blk.new _ _ _, rb_up7 (rb_up7 r7.out b4.out) n4, rb_up7 r9.out n4, rb_up7 HR.out B5, ssUp (ssUp (ssUp S2.out b3.out) b4.out) n4, ssUp (ssUp (ssUp T2.out b3.out) b4.out) n4⟩
    obtain ⟨v3, hv3⟩ : ∃ x, x = w1.heap.size := ⟨_, rfl⟩
    obtain ⟨v5, hv5⟩ : ∃ x, x = w2.heap.size := ⟨_, rfl⟩
    obtain ⟨v9, hv9⟩ : ∃ x, x = w4.heap.size := ⟨_, rfl⟩
    obtain ⟨W4, hW4⟩ : ∃ x, x = w4.alloc (.cells #[.string id, .slice A9 n c9] 36) := ⟨_, rfl⟩
    rw [← hv3, ← hv5, ← hv9, ← hW4] at P4 ⊢
    clear hv3 hv5 hv9 hW4 p0 p1 p2 p3 p4 p5 p6 U1 U2 F2 S1 S2 T2 B1 B2 B3 b1 b2 b3 b4 r7 r9 ss3 ss5 cap3 cap5 HGp HGr HPp HIt HR HB0
    rcases hcase with ⟨rfl, rfl, hPb⟩ | hy
    · have e9 : sp = sb := by rw [← HSPp.out, ← HSB.out, hPb]
      subst e9
      have P0 : GuV w W4.drew v3 v5 v9 a l q k t1 t2 z t3 X3 c3 X5 c5 id A9 n c9 A7 P A b := GuV.up P4.out ⟨rfl, rfl, rfl, Nat.le_refl _, fun _ _ => rfl⟩
      have h0 := GuV.held p7 c7 c sp sp HP7.out HNn.out HSPp.out HSB.out P0
      clear P4
      go_region_held_law (fun w' => w'.cell? ⟨v3, 0, none⟩ = some (.int .i64 a) ∧ w'.cell? ⟨v3, 1, none⟩ = some (.slice X3 q c3) ∧ w'.cell? ⟨v3, 2, none⟩ = some (.int .i64 k) ∧ w'.cell? ⟨v3, 3, none⟩ = some (.string t1) ∧ w'.cell? ⟨v3, 4, none⟩ = some (.string t2) ∧ w'.cell? ⟨v3, 5, none⟩ = some (.int .i64 z) ∧ w'.cell? ⟨v3, 6, none⟩ = some (.string t3) ∧ w'.cell? ⟨v5, 0, none⟩ = some (.int .i64 a) ∧ w'.cell? ⟨v5, 1, none⟩ = some (.slice X5 q c5) ∧ w'.cell? ⟨v5, 2, none⟩ = some (.int .i64 k) ∧ w'.cell? ⟨v5, 3, none⟩ = some (.string t1) ∧ w'.cell? ⟨v5, 4, none⟩ = some (.string t2) ∧ w'.cell? ⟨v5, 5, none⟩ = some (.int .i64 z) ∧ w'.cell? ⟨v5, 6, none⟩ = some (.string t3) ∧ w'.cell? ⟨v9, 0, none⟩ = some (.string id) ∧ w'.cell? ⟨v9, 1, none⟩ = some (.slice A9 n c9) ∧ (convert 29 9 (.slice A7 p7 c7)).run Tryd.prog w' = .ok (.string sp) w' ∧ (convert 29 9 (.slice A9 n c9)).run Tryd.prog w' = .ok (.string sp) w' ∧ (convert 29 9 (.slice A n c)).run Tryd.prog w' = .ok (.string sp) w')
        (exact GuV.held p7 c7 c sp sp HP7.out HNn.out HSPp.out HSB.out (by assumption))
        (first
          | (go_at_call 14; (with_reducible refine (HSm.out X3 c3 X5 c5 _ P0.s3 P0.s5).mono ?_); rintro e x1 ⟨rfl, b1⟩; have P1 : GuV w x1 v3 v5 v9 a l q k t1 t2 z t3 X3 c3 X5 c5 id A9 n c9 A7 P A b := GuV.up (by assumption) b1)
          | (go_at_call 18; (with_reducible refine (HRI.out _ P1.below).mono ?_); rintro e x2 ⟨rfl, b2⟩; have P2 : GuV w x2 v3 v5 v9 a l q k t1 t2 z t3 X3 c3 X5 c5 id A9 n c9 A7 P A b := GuV.up (by assumption) b2)
          | (go_at_call 7; (with_reducible refine (HAw.out _ P2.below).mono ?_); rintro e x3 ⟨rfl, b3⟩; have P3 : GuV w x3 v3 v5 v9 a l q k t1 t2 z t3 X3 c3 X5 c5 id A9 n c9 A7 P A b := GuV.up (by assumption) b3))
      go_wp2
      go_ret
      have PE : GuV w x3 v3 v5 v9 a l q k t1 t2 z t3 X3 c3 X5 c5 id A9 n c9 A7 P A b := by assumption
      exact ⟨rfl, by first | exact PE.below | exact PE.below.drew⟩
    · have hc9 : ∀ W, GuV w W v3 v5 v9 a l q k t1 t2 z t3 X3 c3 X5 c5 id A9 n c9 A7 P A b → (convert 29 9 (.slice A9 n c9)).run Tryd.prog W = .ok (.string sb) W := fun W h => (GuV.held p7 c7 c sp sb HP7.out HNn.out HSPp.out HSB.out h).2.2.2.2.2.2.2.2.2.2.2.2.2.2.2.2.2.1
      have hcb : ∀ W, GuV w W v3 v5 v9 a l q k t1 t2 z t3 X3 c3 X5 c5 id A9 n c9 A7 P A b → (convert 29 9 (.slice A n c)).run Tryd.prog W = .ok (.string sb) W := fun W h => (GuV.held p7 c7 c sp sb HP7.out HNn.out HSPp.out HSB.out h).2.2.2.2.2.2.2.2.2.2.2.2.2.2.2.2.2.2
      rcases hy with rfl | rfl
      · have S0 : GuV w W4.drew v3 v5 v9 a l q k t1 t2 z t3 X3 c3 X5 c5 id A9 n c9 A7 P A b := GuV.up P4.out ⟨rfl, rfl, rfl, Nat.le_refl _, fun _ _ => rfl⟩
        refine region_T (fun W => GuV w W v3 v5 v9 a l q k t1 t2 z t3 X3 c3 X5 c5 id A9 n c9 A7 P A b) (fun j => decide (41 ≤ j)) (by kernel_rfl) ?_
        refine any_asT rfl (listed' := #[false, false, false, false, false, false, false, false, false, false, false, false, false, false, false, false, false, false, false, false, false, false, false, false, false, false, false, false, false, false, false, false, false, false, false, false, false, false, false, false, false, false]) (by kernel_rfl) ?_
        generalize W4.drew = V0 at S0 ⊢
        refine take_d (i := 0) (.agg #[.int .i64 a, .slice X3 q c3, .int .i64 k, .string t1, .string t2, .int .i64 z, .string t3]) 31 rfl (by kernel_rfl) (by kernel_rfl) (by kernel_rfl) (by kernel_rfl) rfl (by kernel_rfl) (by kernel_rfl) (fun W hW => load_run 26 (.tmp 3) v3 0 [.int .i64 a, .slice X3 q c3, .int .i64 k, .string t1, .string t2, .int .i64 z, .string t3] _ (by kernel_rfl) (by kernel_rfl) (blk_range7 hW.u3) Tryd.underlying26 rfl (by kernel_rfl) #[.int .i64 a, .slice X3 q c3, .int .i64 k, .string t1, .string t2, .int .i64 z, .string t3] rfl) S0 (fun _ _ _ h => h) ?_
        simp only [Act.put, List.setIfInBounds_toArray, List.set_cons_zero, List.set_cons_succ]
        refine take_d (i := 1) (.agg #[.int .i64 a, .slice X5 q c5, .int .i64 k, .string t1, .string t2, .int .i64 z, .string t3]) 32 rfl (by kernel_rfl) (by kernel_rfl) (by kernel_rfl) (by kernel_rfl) rfl (by kernel_rfl) (by kernel_rfl) (fun W hW => load_run 26 (.tmp 5) v5 0 [.int .i64 a, .slice X5 q c5, .int .i64 k, .string t1, .string t2, .int .i64 z, .string t3] _ (by kernel_rfl) (by kernel_rfl) (blk_range7 hW.u5) Tryd.underlying26 rfl (by kernel_rfl) #[.int .i64 a, .slice X5 q c5, .int .i64 k, .string t1, .string t2, .int .i64 z, .string t3] rfl) S0 (fun _ _ _ h => h) ?_
        simp only [Act.put, List.setIfInBounds_toArray, List.set_cons_zero, List.set_cons_succ]
        refine any_comes (i := 2) (by kernel_rfl) (op_enter 14 #[.agg #[.int .i64 a, .slice X3 q c3, .int .i64 k, .string t1, .string t2, .int .i64 z, .string t3], .agg #[.int .i64 a, .slice X5 q c5, .int .i64 k, .string t1, .string t2, .int .i64 z, .string t3]] (some 33) rfl (by kernel_rfl) (by kernel_rfl) (by kernel_rfl) ((HSm.out X3 c3 X5 c5 V0 S0.s3 S0.s5).mono ?_))
        rintro e x11 ⟨rfl, b11⟩
        have S1 : GuV w x11 v3 v5 v9 a l q k t1 t2 z t3 X3 c3 X5 c5 id A9 n c9 A7 P A b := GuV.up S0 b11
        refine ⟨_, rfl, S1, ?_⟩
        simp only [Act.put, List.setIfInBounds_toArray, List.set_cons_zero, List.set_cons_succ]
        refine take_d (i := 3) (.bool true) 34 rfl (by kernel_rfl) (by kernel_rfl) (by kernel_rfl) (by kernel_rfl) rfl (by kernel_rfl) (by kernel_rfl) (fun W hW => by kernel_rfl) S1 (fun _ _ _ h => h) ?_
        simp only [Act.put, List.setIfInBounds_toArray, List.set_cons_zero, List.set_cons_succ]
        refine take_d (i := 4) (.int .i64 3) 35 rfl (by kernel_rfl) (by kernel_rfl) (by kernel_rfl) (by kernel_rfl) rfl (by kernel_rfl) (by kernel_rfl) (fun W hW => by kernel_rfl) S1 (fun _ _ _ h => h) ?_
        simp only [Act.put, List.setIfInBounds_toArray, List.set_cons_zero, List.set_cons_succ]
        refine take_d (i := 5) (.int .i64 3) 36 rfl (by kernel_rfl) (by kernel_rfl) (by kernel_rfl) (by kernel_rfl) rfl (by kernel_rfl) (by kernel_rfl) (fun W hW => by kernel_rfl) S1 (fun _ _ _ h => h) ?_
        simp only [Act.put, List.setIfInBounds_toArray, List.set_cons_zero, List.set_cons_succ]
        refine take_d (i := 6) (.bool true) 37 rfl (by kernel_rfl) (by kernel_rfl) (by kernel_rfl) (by kernel_rfl) rfl (by kernel_rfl) (by kernel_rfl) (fun W hW => by kernel_rfl) S1 (fun _ _ _ h => h) ?_
        simp only [Act.put, List.setIfInBounds_toArray, List.set_cons_zero, List.set_cons_succ]
        refine take_d (i := 7) (.bool true) 38 rfl (by kernel_rfl) (by kernel_rfl) (by kernel_rfl) (by kernel_rfl) rfl (by kernel_rfl) (by kernel_rfl) (fun W hW => by kernel_rfl) S1 (fun _ _ _ h => h) ?_
        simp only [Act.put, List.setIfInBounds_toArray, List.set_cons_zero, List.set_cons_succ]
        refine take_d (i := 8) (.bool true) 39 rfl (by kernel_rfl) (by kernel_rfl) (by kernel_rfl) (by kernel_rfl) rfl (by kernel_rfl) (by kernel_rfl) (fun W hW => by kernel_rfl) S1 (fun _ _ _ h => h) ?_
        simp only [Act.put, List.setIfInBounds_toArray, List.set_cons_zero, List.set_cons_succ]
        refine take_d (i := 9) (.int .i64 3) 40 rfl (by kernel_rfl) (by kernel_rfl) (by kernel_rfl) (by kernel_rfl) rfl (by kernel_rfl) (by kernel_rfl) (fun W hW => by kernel_rfl) S1 (fun _ _ _ h => h) ?_
        simp only [Act.put, List.setIfInBounds_toArray, List.set_cons_zero, List.set_cons_succ]
        refine take_d (i := 10) (.bool true) 41 rfl (by kernel_rfl) (by kernel_rfl) (by kernel_rfl) (by kernel_rfl) rfl (by kernel_rfl) (by kernel_rfl) (fun W hW => by kernel_rfl) S1 (fun _ _ _ h => h) ?_
        simp only [Act.put, List.setIfInBounds_toArray, List.set_cons_zero, List.set_cons_succ]
        refine take_d (i := 11) (.bool true) 42 rfl (by kernel_rfl) (by kernel_rfl) (by kernel_rfl) (by kernel_rfl) rfl (by kernel_rfl) (by kernel_rfl) (fun W hW => by kernel_rfl) S1 (fun _ _ _ h => h) ?_
        simp only [Act.put, List.setIfInBounds_toArray, List.set_cons_zero, List.set_cons_succ]
        refine skip_d (i := 12) 43 rfl (by kernel_rfl) (by kernel_rfl) (by kernel_rfl) (by kernel_rfl) rfl (by kernel_rfl) (by kernel_rfl) S1 (fun _ _ _ h => h) ?_
        simp only [Act.put, List.setIfInBounds_toArray, List.set_cons_zero, List.set_cons_succ]
        refine skip_d (i := 13) 44 rfl (by kernel_rfl) (by kernel_rfl) (by kernel_rfl) (by kernel_rfl) rfl (by kernel_rfl) (by kernel_rfl) S1 (fun _ _ _ h => h) ?_
        simp only [Act.put, List.setIfInBounds_toArray, List.set_cons_zero, List.set_cons_succ]
        refine skip_d (i := 14) 45 rfl (by kernel_rfl) (by kernel_rfl) (by kernel_rfl) (by kernel_rfl) rfl (by kernel_rfl) (by kernel_rfl) S1 (fun _ _ _ h => h) ?_
        simp only [Act.put, List.setIfInBounds_toArray, List.set_cons_zero, List.set_cons_succ]
        refine skip_d (i := 15) 46 rfl (by kernel_rfl) (by kernel_rfl) (by kernel_rfl) (by kernel_rfl) rfl (by kernel_rfl) (by kernel_rfl) S1 (fun _ _ _ h => h) ?_
        simp only [Act.put, List.setIfInBounds_toArray, List.set_cons_zero, List.set_cons_succ]
        refine skip_d (i := 16) 47 rfl (by kernel_rfl) (by kernel_rfl) (by kernel_rfl) (by kernel_rfl) rfl (by kernel_rfl) (by kernel_rfl) S1 (fun _ _ _ h => h) ?_
        simp only [Act.put, List.setIfInBounds_toArray, List.set_cons_zero, List.set_cons_succ]
        refine skip_d (i := 17) 48 rfl (by kernel_rfl) (by kernel_rfl) (by kernel_rfl) (by kernel_rfl) rfl (by kernel_rfl) (by kernel_rfl) S1 (fun _ _ _ h => h) ?_
        simp only [Act.put, List.setIfInBounds_toArray, List.set_cons_zero, List.set_cons_succ]
        refine skip_d (i := 18) 49 rfl (by kernel_rfl) (by kernel_rfl) (by kernel_rfl) (by kernel_rfl) rfl (by kernel_rfl) (by kernel_rfl) S1 (fun _ _ _ h => h) ?_
        simp only [Act.put, List.setIfInBounds_toArray, List.set_cons_zero, List.set_cons_succ]
        refine skip_d (i := 19) 50 rfl (by kernel_rfl) (by kernel_rfl) (by kernel_rfl) (by kernel_rfl) rfl (by kernel_rfl) (by kernel_rfl) S1 (fun _ _ _ h => h) ?_
        simp only [Act.put, List.setIfInBounds_toArray, List.set_cons_zero, List.set_cons_succ]
        refine skip_d (i := 20) 51 rfl (by kernel_rfl) (by kernel_rfl) (by kernel_rfl) (by kernel_rfl) rfl (by kernel_rfl) (by kernel_rfl) S1 (fun _ _ _ h => h) ?_
        simp only [Act.put, List.setIfInBounds_toArray, List.set_cons_zero, List.set_cons_succ]
        refine take_d (i := 21) (.bool true) 52 rfl (by kernel_rfl) (by kernel_rfl) (by kernel_rfl) (by kernel_rfl) rfl (by kernel_rfl) (by kernel_rfl) (fun W hW => by kernel_rfl) S1 (fun _ _ _ h => h) ?_
        simp only [Act.put, List.setIfInBounds_toArray, List.set_cons_zero, List.set_cons_succ]
        refine take_d (i := 22) (.bool true) 53 rfl (by kernel_rfl) (by kernel_rfl) (by kernel_rfl) (by kernel_rfl) rfl (by kernel_rfl) (by kernel_rfl) (fun W hW => by kernel_rfl) S1 (fun _ _ _ h => h) ?_
        simp only [Act.put, List.setIfInBounds_toArray, List.set_cons_zero, List.set_cons_succ]
        refine take_d (i := 23) (.bool true) 54 rfl (by kernel_rfl) (by kernel_rfl) (by kernel_rfl) (by kernel_rfl) rfl (by kernel_rfl) (by kernel_rfl) (fun W hW => by kernel_rfl) S1 (fun _ _ _ h => h) ?_
        simp only [Act.put, List.setIfInBounds_toArray, List.set_cons_zero, List.set_cons_succ]
        refine take_d (i := 24) (.pointer (some ⟨v9, 0, none⟩)) 55 rfl (by kernel_rfl) (by kernel_rfl) (by kernel_rfl) (by kernel_rfl) rfl (by kernel_rfl) (by kernel_rfl) (fun W hW => by kernel_rfl) S1 (fun _ _ _ h => h) ?_
        simp only [Act.put, List.setIfInBounds_toArray, List.set_cons_zero, List.set_cons_succ]
        refine take_d (i := 25) (.string id) 56 rfl (by kernel_rfl) (by kernel_rfl) (by kernel_rfl) (by kernel_rfl) rfl (by kernel_rfl) (by kernel_rfl) (fun W hW => cell_run 9 (.tmp 55) ⟨v9, 0, none⟩ (.string id) _ (by kernel_rfl) (by kernel_rfl) (blk2A hW.i9).1 Tryd.underlying9 rfl (by kernel_rfl)) S1 (fun _ _ _ h => h) ?_
        simp only [Act.put, List.setIfInBounds_toArray, List.set_cons_zero, List.set_cons_succ]
        refine take_d (i := 26) (.slice A n c) 57 rfl (by kernel_rfl) (by kernel_rfl) (by kernel_rfl) (by kernel_rfl) rfl (by kernel_rfl) (by kernel_rfl) (fun W hW => by kernel_rfl) S1 (fun _ _ _ h => h) ?_
        simp only [Act.put, List.setIfInBounds_toArray, List.set_cons_zero, List.set_cons_succ]
        refine any_comes (i := 27) (by kernel_rfl) (op_enter 18 #[.slice A n c] (some 58) rfl (by kernel_rfl) (by kernel_rfl) (by kernel_rfl) ((HRI.out x11 S1.below).mono ?_))
        rintro e x12 ⟨rfl, b12⟩
        have S2 : GuV w x12 v3 v5 v9 a l q k t1 t2 z t3 X3 c3 X5 c5 id A9 n c9 A7 P A b := GuV.up S1 b12
        refine ⟨_, rfl, S2, ?_⟩
        simp only [Act.put, List.setIfInBounds_toArray, List.set_cons_zero, List.set_cons_succ]
        refine take_d (i := 28) (.bool true) 59 rfl (by kernel_rfl) (by kernel_rfl) (by kernel_rfl) (by kernel_rfl) rfl (by kernel_rfl) (by kernel_rfl) (fun W hW => seql_runO (.tmp 56) (.tmp 58) id (by kernel_rfl) (by kernel_rfl) (by kernel_rfl)) S2 (fun _ _ _ h => h) ?_
        simp only [Act.put, List.setIfInBounds_toArray, List.set_cons_zero, List.set_cons_succ]
        refine take_d (i := 29) (.bool true) 60 rfl (by kernel_rfl) (by kernel_rfl) (by kernel_rfl) (by kernel_rfl) rfl (by kernel_rfl) (by kernel_rfl) (fun W hW => by kernel_rfl) S2 (fun _ _ _ h => h) ?_
        simp only [Act.put, List.setIfInBounds_toArray, List.set_cons_zero, List.set_cons_succ]
        refine take_d (i := 30) (.bool true) 61 rfl (by kernel_rfl) (by kernel_rfl) (by kernel_rfl) (by kernel_rfl) rfl (by kernel_rfl) (by kernel_rfl) (fun W hW => by kernel_rfl) S2 (fun _ _ _ h => h) ?_
        simp only [Act.put, List.setIfInBounds_toArray, List.set_cons_zero, List.set_cons_succ]
        refine take_d (i := 31) (.pointer (some ⟨v9, 1, none⟩)) 62 rfl (by kernel_rfl) (by kernel_rfl) (by kernel_rfl) (by kernel_rfl) rfl (by kernel_rfl) (by kernel_rfl) (fun W hW => by kernel_rfl) S2 (fun _ _ _ h => h) ?_
        simp only [Act.put, List.setIfInBounds_toArray, List.set_cons_zero, List.set_cons_succ]
        refine take_d (i := 32) (.slice A9 n c9) 63 rfl (by kernel_rfl) (by kernel_rfl) (by kernel_rfl) (by kernel_rfl) rfl (by kernel_rfl) (by kernel_rfl) (fun W hW => cell_run 29 (.tmp 62) ⟨v9, 1, none⟩ (.slice A9 n c9) _ (by kernel_rfl) (by kernel_rfl) (blk2A hW.i9).2 Tryd.underlying29 rfl (by kernel_rfl)) S2 (fun _ _ _ h => h) ?_
        simp only [Act.put, List.setIfInBounds_toArray, List.set_cons_zero, List.set_cons_succ]
        refine take_d (i := 33) (.string sb) 64 rfl (by kernel_rfl) (by kernel_rfl) (by kernel_rfl) (by kernel_rfl) rfl (by kernel_rfl) (by kernel_rfl) (fun W hW => str_runO (.tmp 63) A9 n c9 sb (by kernel_rfl) (by kernel_rfl) (hc9 W hW)) S2 (fun _ _ _ h => h) ?_
        simp only [Act.put, List.setIfInBounds_toArray, List.set_cons_zero, List.set_cons_succ]
        refine take_d (i := 34) (.slice A n c) 65 rfl (by kernel_rfl) (by kernel_rfl) (by kernel_rfl) (by kernel_rfl) rfl (by kernel_rfl) (by kernel_rfl) (fun W hW => by kernel_rfl) S2 (fun _ _ _ h => h) ?_
        simp only [Act.put, List.setIfInBounds_toArray, List.set_cons_zero, List.set_cons_succ]
        refine take_d (i := 35) (.string sb) 66 rfl (by kernel_rfl) (by kernel_rfl) (by kernel_rfl) (by kernel_rfl) rfl (by kernel_rfl) (by kernel_rfl) (fun W hW => str_runO (.tmp 65) A n c sb (by kernel_rfl) (by kernel_rfl) (hcb W hW)) S2 (fun _ _ _ h => h) ?_
        simp only [Act.put, List.setIfInBounds_toArray, List.set_cons_zero, List.set_cons_succ]
        refine take_d (i := 36) (.bool true) 67 rfl (by kernel_rfl) (by kernel_rfl) (by kernel_rfl) (by kernel_rfl) rfl (by kernel_rfl) (by kernel_rfl) (fun W hW => seql_runO (.tmp 64) (.tmp 66) sb (by kernel_rfl) (by kernel_rfl) (by kernel_rfl)) S2 (fun _ _ _ h => h) ?_
        simp only [Act.put, List.setIfInBounds_toArray, List.set_cons_zero, List.set_cons_succ]
        refine take_d (i := 37) (.bool true) 68 rfl (by kernel_rfl) (by kernel_rfl) (by kernel_rfl) (by kernel_rfl) rfl (by kernel_rfl) (by kernel_rfl) (fun W hW => by kernel_rfl) S2 (fun _ _ _ h => h) ?_
        simp only [Act.put, List.setIfInBounds_toArray, List.set_cons_zero, List.set_cons_succ]
        refine take_d (i := 38) (.bool true) 69 rfl (by kernel_rfl) (by kernel_rfl) (by kernel_rfl) (by kernel_rfl) rfl (by kernel_rfl) (by kernel_rfl) (fun W hW => by kernel_rfl) S2 (fun _ _ _ h => h) ?_
        simp only [Act.put, List.setIfInBounds_toArray, List.set_cons_zero, List.set_cons_succ]
        refine any_comes (i := 39) (by kernel_rfl) (op_enter 7 #[] (some 70) rfl (by kernel_rfl) (by kernel_rfl) (by kernel_rfl) ((HAw.out x12 S2.below).mono ?_))
        rintro e x13 ⟨rfl, b13⟩
        have S3 : GuV w x13 v3 v5 v9 a l q k t1 t2 z t3 X3 c3 X5 c5 id A9 n c9 A7 P A b := GuV.up S2 b13
        refine ⟨_, rfl, S3, ?_⟩
        simp only [Act.put, List.setIfInBounds_toArray, List.set_cons_zero, List.set_cons_succ]
        refine take_d (i := 40) (.bool true) 71 rfl (by kernel_rfl) (by kernel_rfl) (by kernel_rfl) (by kernel_rfl) rfl (by kernel_rfl) (by kernel_rfl) (fun W hW => by kernel_rfl) S3 (fun _ _ _ h => h) ?_
        simp only [Act.put, List.setIfInBounds_toArray, List.set_cons_zero, List.set_cons_succ]
        refine any_left (by kernel_rfl) ?_
        refine wpAny_tail 41 (by kernel_rfl) (by kernel_rfl) ?_
        simp only [List.drop_succ_cons, List.drop_zero]
        go_wp2
        go_ret
        exact ⟨rfl, by first | exact S3.below | exact S3.below.drew⟩
      · have S0 : GuV w W4.drew v3 v5 v9 a l q k t1 t2 z t3 X3 c3 X5 c5 id A9 n c9 A7 P A b := GuV.up P4.out ⟨rfl, rfl, rfl, Nat.le_refl _, fun _ _ => rfl⟩
        refine region_T (fun W => GuV w W v3 v5 v9 a l q k t1 t2 z t3 X3 c3 X5 c5 id A9 n c9 A7 P A b) (fun j => decide (41 ≤ j)) (by kernel_rfl) ?_
        refine any_asT rfl (listed' := #[false, false, false, false, false, false, false, false, false, false, false, false, false, false, false, false, false, false, false, false, false, false, false, false, false, false, false, false, false, false, false, false, false, false, false, false, false, false, false, false, false, false]) (by kernel_rfl) ?_
        generalize W4.drew = V0 at S0 ⊢
        refine take_d (i := 0) (.agg #[.int .i64 a, .slice X3 q c3, .int .i64 k, .string t1, .string t2, .int .i64 z, .string t3]) 31 rfl (by kernel_rfl) (by kernel_rfl) (by kernel_rfl) (by kernel_rfl) rfl (by kernel_rfl) (by kernel_rfl) (fun W hW => load_run 26 (.tmp 3) v3 0 [.int .i64 a, .slice X3 q c3, .int .i64 k, .string t1, .string t2, .int .i64 z, .string t3] _ (by kernel_rfl) (by kernel_rfl) (blk_range7 hW.u3) Tryd.underlying26 rfl (by kernel_rfl) #[.int .i64 a, .slice X3 q c3, .int .i64 k, .string t1, .string t2, .int .i64 z, .string t3] rfl) S0 (fun _ _ _ h => h) ?_
        simp only [Act.put, List.setIfInBounds_toArray, List.set_cons_zero, List.set_cons_succ]
        refine take_d (i := 1) (.agg #[.int .i64 a, .slice X5 q c5, .int .i64 k, .string t1, .string t2, .int .i64 z, .string t3]) 32 rfl (by kernel_rfl) (by kernel_rfl) (by kernel_rfl) (by kernel_rfl) rfl (by kernel_rfl) (by kernel_rfl) (fun W hW => load_run 26 (.tmp 5) v5 0 [.int .i64 a, .slice X5 q c5, .int .i64 k, .string t1, .string t2, .int .i64 z, .string t3] _ (by kernel_rfl) (by kernel_rfl) (blk_range7 hW.u5) Tryd.underlying26 rfl (by kernel_rfl) #[.int .i64 a, .slice X5 q c5, .int .i64 k, .string t1, .string t2, .int .i64 z, .string t3] rfl) S0 (fun _ _ _ h => h) ?_
        simp only [Act.put, List.setIfInBounds_toArray, List.set_cons_zero, List.set_cons_succ]
        refine any_comes (i := 2) (by kernel_rfl) (op_enter 14 #[.agg #[.int .i64 a, .slice X3 q c3, .int .i64 k, .string t1, .string t2, .int .i64 z, .string t3], .agg #[.int .i64 a, .slice X5 q c5, .int .i64 k, .string t1, .string t2, .int .i64 z, .string t3]] (some 33) rfl (by kernel_rfl) (by kernel_rfl) (by kernel_rfl) ((HSm.out X3 c3 X5 c5 V0 S0.s3 S0.s5).mono ?_))
        rintro e x11 ⟨rfl, b11⟩
        have S1 : GuV w x11 v3 v5 v9 a l q k t1 t2 z t3 X3 c3 X5 c5 id A9 n c9 A7 P A b := GuV.up S0 b11
        refine ⟨_, rfl, S1, ?_⟩
        simp only [Act.put, List.setIfInBounds_toArray, List.set_cons_zero, List.set_cons_succ]
        refine take_d (i := 3) (.bool true) 34 rfl (by kernel_rfl) (by kernel_rfl) (by kernel_rfl) (by kernel_rfl) rfl (by kernel_rfl) (by kernel_rfl) (fun W hW => by kernel_rfl) S1 (fun _ _ _ h => h) ?_
        simp only [Act.put, List.setIfInBounds_toArray, List.set_cons_zero, List.set_cons_succ]
        refine take_d (i := 4) (.int .i64 5) 35 rfl (by kernel_rfl) (by kernel_rfl) (by kernel_rfl) (by kernel_rfl) rfl (by kernel_rfl) (by kernel_rfl) (fun W hW => by kernel_rfl) S1 (fun _ _ _ h => h) ?_
        simp only [Act.put, List.setIfInBounds_toArray, List.set_cons_zero, List.set_cons_succ]
        refine take_d (i := 5) (.int .i64 5) 36 rfl (by kernel_rfl) (by kernel_rfl) (by kernel_rfl) (by kernel_rfl) rfl (by kernel_rfl) (by kernel_rfl) (fun W hW => by kernel_rfl) S1 (fun _ _ _ h => h) ?_
        simp only [Act.put, List.setIfInBounds_toArray, List.set_cons_zero, List.set_cons_succ]
        refine take_d (i := 6) (.bool true) 37 rfl (by kernel_rfl) (by kernel_rfl) (by kernel_rfl) (by kernel_rfl) rfl (by kernel_rfl) (by kernel_rfl) (fun W hW => by kernel_rfl) S1 (fun _ _ _ h => h) ?_
        simp only [Act.put, List.setIfInBounds_toArray, List.set_cons_zero, List.set_cons_succ]
        refine take_d (i := 7) (.bool true) 38 rfl (by kernel_rfl) (by kernel_rfl) (by kernel_rfl) (by kernel_rfl) rfl (by kernel_rfl) (by kernel_rfl) (fun W hW => by kernel_rfl) S1 (fun _ _ _ h => h) ?_
        simp only [Act.put, List.setIfInBounds_toArray, List.set_cons_zero, List.set_cons_succ]
        refine take_d (i := 8) (.bool true) 39 rfl (by kernel_rfl) (by kernel_rfl) (by kernel_rfl) (by kernel_rfl) rfl (by kernel_rfl) (by kernel_rfl) (fun W hW => by kernel_rfl) S1 (fun _ _ _ h => h) ?_
        simp only [Act.put, List.setIfInBounds_toArray, List.set_cons_zero, List.set_cons_succ]
        refine take_d (i := 9) (.int .i64 5) 40 rfl (by kernel_rfl) (by kernel_rfl) (by kernel_rfl) (by kernel_rfl) rfl (by kernel_rfl) (by kernel_rfl) (fun W hW => by kernel_rfl) S1 (fun _ _ _ h => h) ?_
        simp only [Act.put, List.setIfInBounds_toArray, List.set_cons_zero, List.set_cons_succ]
        refine take_d (i := 10) (.bool true) 41 rfl (by kernel_rfl) (by kernel_rfl) (by kernel_rfl) (by kernel_rfl) rfl (by kernel_rfl) (by kernel_rfl) (fun W hW => by kernel_rfl) S1 (fun _ _ _ h => h) ?_
        simp only [Act.put, List.setIfInBounds_toArray, List.set_cons_zero, List.set_cons_succ]
        refine take_d (i := 11) (.bool true) 42 rfl (by kernel_rfl) (by kernel_rfl) (by kernel_rfl) (by kernel_rfl) rfl (by kernel_rfl) (by kernel_rfl) (fun W hW => by kernel_rfl) S1 (fun _ _ _ h => h) ?_
        simp only [Act.put, List.setIfInBounds_toArray, List.set_cons_zero, List.set_cons_succ]
        refine skip_d (i := 12) 43 rfl (by kernel_rfl) (by kernel_rfl) (by kernel_rfl) (by kernel_rfl) rfl (by kernel_rfl) (by kernel_rfl) S1 (fun _ _ _ h => h) ?_
        simp only [Act.put, List.setIfInBounds_toArray, List.set_cons_zero, List.set_cons_succ]
        refine skip_d (i := 13) 44 rfl (by kernel_rfl) (by kernel_rfl) (by kernel_rfl) (by kernel_rfl) rfl (by kernel_rfl) (by kernel_rfl) S1 (fun _ _ _ h => h) ?_
        simp only [Act.put, List.setIfInBounds_toArray, List.set_cons_zero, List.set_cons_succ]
        refine skip_d (i := 14) 45 rfl (by kernel_rfl) (by kernel_rfl) (by kernel_rfl) (by kernel_rfl) rfl (by kernel_rfl) (by kernel_rfl) S1 (fun _ _ _ h => h) ?_
        simp only [Act.put, List.setIfInBounds_toArray, List.set_cons_zero, List.set_cons_succ]
        refine skip_d (i := 15) 46 rfl (by kernel_rfl) (by kernel_rfl) (by kernel_rfl) (by kernel_rfl) rfl (by kernel_rfl) (by kernel_rfl) S1 (fun _ _ _ h => h) ?_
        simp only [Act.put, List.setIfInBounds_toArray, List.set_cons_zero, List.set_cons_succ]
        refine skip_d (i := 16) 47 rfl (by kernel_rfl) (by kernel_rfl) (by kernel_rfl) (by kernel_rfl) rfl (by kernel_rfl) (by kernel_rfl) S1 (fun _ _ _ h => h) ?_
        simp only [Act.put, List.setIfInBounds_toArray, List.set_cons_zero, List.set_cons_succ]
        refine skip_d (i := 17) 48 rfl (by kernel_rfl) (by kernel_rfl) (by kernel_rfl) (by kernel_rfl) rfl (by kernel_rfl) (by kernel_rfl) S1 (fun _ _ _ h => h) ?_
        simp only [Act.put, List.setIfInBounds_toArray, List.set_cons_zero, List.set_cons_succ]
        refine skip_d (i := 18) 49 rfl (by kernel_rfl) (by kernel_rfl) (by kernel_rfl) (by kernel_rfl) rfl (by kernel_rfl) (by kernel_rfl) S1 (fun _ _ _ h => h) ?_
        simp only [Act.put, List.setIfInBounds_toArray, List.set_cons_zero, List.set_cons_succ]
        refine skip_d (i := 19) 50 rfl (by kernel_rfl) (by kernel_rfl) (by kernel_rfl) (by kernel_rfl) rfl (by kernel_rfl) (by kernel_rfl) S1 (fun _ _ _ h => h) ?_
        simp only [Act.put, List.setIfInBounds_toArray, List.set_cons_zero, List.set_cons_succ]
        refine skip_d (i := 20) 51 rfl (by kernel_rfl) (by kernel_rfl) (by kernel_rfl) (by kernel_rfl) rfl (by kernel_rfl) (by kernel_rfl) S1 (fun _ _ _ h => h) ?_
        simp only [Act.put, List.setIfInBounds_toArray, List.set_cons_zero, List.set_cons_succ]
        refine take_d (i := 21) (.bool true) 52 rfl (by kernel_rfl) (by kernel_rfl) (by kernel_rfl) (by kernel_rfl) rfl (by kernel_rfl) (by kernel_rfl) (fun W hW => by kernel_rfl) S1 (fun _ _ _ h => h) ?_
        simp only [Act.put, List.setIfInBounds_toArray, List.set_cons_zero, List.set_cons_succ]
        refine take_d (i := 22) (.bool true) 53 rfl (by kernel_rfl) (by kernel_rfl) (by kernel_rfl) (by kernel_rfl) rfl (by kernel_rfl) (by kernel_rfl) (fun W hW => by kernel_rfl) S1 (fun _ _ _ h => h) ?_
        simp only [Act.put, List.setIfInBounds_toArray, List.set_cons_zero, List.set_cons_succ]
        refine take_d (i := 23) (.bool true) 54 rfl (by kernel_rfl) (by kernel_rfl) (by kernel_rfl) (by kernel_rfl) rfl (by kernel_rfl) (by kernel_rfl) (fun W hW => by kernel_rfl) S1 (fun _ _ _ h => h) ?_
        simp only [Act.put, List.setIfInBounds_toArray, List.set_cons_zero, List.set_cons_succ]
        refine take_d (i := 24) (.pointer (some ⟨v9, 0, none⟩)) 55 rfl (by kernel_rfl) (by kernel_rfl) (by kernel_rfl) (by kernel_rfl) rfl (by kernel_rfl) (by kernel_rfl) (fun W hW => by kernel_rfl) S1 (fun _ _ _ h => h) ?_
        simp only [Act.put, List.setIfInBounds_toArray, List.set_cons_zero, List.set_cons_succ]
        refine take_d (i := 25) (.string id) 56 rfl (by kernel_rfl) (by kernel_rfl) (by kernel_rfl) (by kernel_rfl) rfl (by kernel_rfl) (by kernel_rfl) (fun W hW => cell_run 9 (.tmp 55) ⟨v9, 0, none⟩ (.string id) _ (by kernel_rfl) (by kernel_rfl) (blk2A hW.i9).1 Tryd.underlying9 rfl (by kernel_rfl)) S1 (fun _ _ _ h => h) ?_
        simp only [Act.put, List.setIfInBounds_toArray, List.set_cons_zero, List.set_cons_succ]
        refine take_d (i := 26) (.slice A n c) 57 rfl (by kernel_rfl) (by kernel_rfl) (by kernel_rfl) (by kernel_rfl) rfl (by kernel_rfl) (by kernel_rfl) (fun W hW => by kernel_rfl) S1 (fun _ _ _ h => h) ?_
        simp only [Act.put, List.setIfInBounds_toArray, List.set_cons_zero, List.set_cons_succ]
        refine any_comes (i := 27) (by kernel_rfl) (op_enter 18 #[.slice A n c] (some 58) rfl (by kernel_rfl) (by kernel_rfl) (by kernel_rfl) ((HRI.out x11 S1.below).mono ?_))
        rintro e x12 ⟨rfl, b12⟩
        have S2 : GuV w x12 v3 v5 v9 a l q k t1 t2 z t3 X3 c3 X5 c5 id A9 n c9 A7 P A b := GuV.up S1 b12
        refine ⟨_, rfl, S2, ?_⟩
        simp only [Act.put, List.setIfInBounds_toArray, List.set_cons_zero, List.set_cons_succ]
        refine take_d (i := 28) (.bool true) 59 rfl (by kernel_rfl) (by kernel_rfl) (by kernel_rfl) (by kernel_rfl) rfl (by kernel_rfl) (by kernel_rfl) (fun W hW => seql_runO (.tmp 56) (.tmp 58) id (by kernel_rfl) (by kernel_rfl) (by kernel_rfl)) S2 (fun _ _ _ h => h) ?_
        simp only [Act.put, List.setIfInBounds_toArray, List.set_cons_zero, List.set_cons_succ]
        refine take_d (i := 29) (.bool true) 60 rfl (by kernel_rfl) (by kernel_rfl) (by kernel_rfl) (by kernel_rfl) rfl (by kernel_rfl) (by kernel_rfl) (fun W hW => by kernel_rfl) S2 (fun _ _ _ h => h) ?_
        simp only [Act.put, List.setIfInBounds_toArray, List.set_cons_zero, List.set_cons_succ]
        refine take_d (i := 30) (.bool true) 61 rfl (by kernel_rfl) (by kernel_rfl) (by kernel_rfl) (by kernel_rfl) rfl (by kernel_rfl) (by kernel_rfl) (fun W hW => by kernel_rfl) S2 (fun _ _ _ h => h) ?_
        simp only [Act.put, List.setIfInBounds_toArray, List.set_cons_zero, List.set_cons_succ]
        refine take_d (i := 31) (.pointer (some ⟨v9, 1, none⟩)) 62 rfl (by kernel_rfl) (by kernel_rfl) (by kernel_rfl) (by kernel_rfl) rfl (by kernel_rfl) (by kernel_rfl) (fun W hW => by kernel_rfl) S2 (fun _ _ _ h => h) ?_
        simp only [Act.put, List.setIfInBounds_toArray, List.set_cons_zero, List.set_cons_succ]
        refine take_d (i := 32) (.slice A9 n c9) 63 rfl (by kernel_rfl) (by kernel_rfl) (by kernel_rfl) (by kernel_rfl) rfl (by kernel_rfl) (by kernel_rfl) (fun W hW => cell_run 29 (.tmp 62) ⟨v9, 1, none⟩ (.slice A9 n c9) _ (by kernel_rfl) (by kernel_rfl) (blk2A hW.i9).2 Tryd.underlying29 rfl (by kernel_rfl)) S2 (fun _ _ _ h => h) ?_
        simp only [Act.put, List.setIfInBounds_toArray, List.set_cons_zero, List.set_cons_succ]
        refine take_d (i := 33) (.string sb) 64 rfl (by kernel_rfl) (by kernel_rfl) (by kernel_rfl) (by kernel_rfl) rfl (by kernel_rfl) (by kernel_rfl) (fun W hW => str_runO (.tmp 63) A9 n c9 sb (by kernel_rfl) (by kernel_rfl) (hc9 W hW)) S2 (fun _ _ _ h => h) ?_
        simp only [Act.put, List.setIfInBounds_toArray, List.set_cons_zero, List.set_cons_succ]
        refine take_d (i := 34) (.slice A n c) 65 rfl (by kernel_rfl) (by kernel_rfl) (by kernel_rfl) (by kernel_rfl) rfl (by kernel_rfl) (by kernel_rfl) (fun W hW => by kernel_rfl) S2 (fun _ _ _ h => h) ?_
        simp only [Act.put, List.setIfInBounds_toArray, List.set_cons_zero, List.set_cons_succ]
        refine take_d (i := 35) (.string sb) 66 rfl (by kernel_rfl) (by kernel_rfl) (by kernel_rfl) (by kernel_rfl) rfl (by kernel_rfl) (by kernel_rfl) (fun W hW => str_runO (.tmp 65) A n c sb (by kernel_rfl) (by kernel_rfl) (hcb W hW)) S2 (fun _ _ _ h => h) ?_
        simp only [Act.put, List.setIfInBounds_toArray, List.set_cons_zero, List.set_cons_succ]
        refine take_d (i := 36) (.bool true) 67 rfl (by kernel_rfl) (by kernel_rfl) (by kernel_rfl) (by kernel_rfl) rfl (by kernel_rfl) (by kernel_rfl) (fun W hW => seql_runO (.tmp 64) (.tmp 66) sb (by kernel_rfl) (by kernel_rfl) (by kernel_rfl)) S2 (fun _ _ _ h => h) ?_
        simp only [Act.put, List.setIfInBounds_toArray, List.set_cons_zero, List.set_cons_succ]
        refine take_d (i := 37) (.bool true) 68 rfl (by kernel_rfl) (by kernel_rfl) (by kernel_rfl) (by kernel_rfl) rfl (by kernel_rfl) (by kernel_rfl) (fun W hW => by kernel_rfl) S2 (fun _ _ _ h => h) ?_
        simp only [Act.put, List.setIfInBounds_toArray, List.set_cons_zero, List.set_cons_succ]
        refine take_d (i := 38) (.bool true) 69 rfl (by kernel_rfl) (by kernel_rfl) (by kernel_rfl) (by kernel_rfl) rfl (by kernel_rfl) (by kernel_rfl) (fun W hW => by kernel_rfl) S2 (fun _ _ _ h => h) ?_
        simp only [Act.put, List.setIfInBounds_toArray, List.set_cons_zero, List.set_cons_succ]
        refine any_comes (i := 39) (by kernel_rfl) (op_enter 7 #[] (some 70) rfl (by kernel_rfl) (by kernel_rfl) (by kernel_rfl) ((HAw.out x12 S2.below).mono ?_))
        rintro e x13 ⟨rfl, b13⟩
        have S3 : GuV w x13 v3 v5 v9 a l q k t1 t2 z t3 X3 c3 X5 c5 id A9 n c9 A7 P A b := GuV.up S2 b13
        refine ⟨_, rfl, S3, ?_⟩
        simp only [Act.put, List.setIfInBounds_toArray, List.set_cons_zero, List.set_cons_succ]
        refine take_d (i := 40) (.bool true) 71 rfl (by kernel_rfl) (by kernel_rfl) (by kernel_rfl) (by kernel_rfl) rfl (by kernel_rfl) (by kernel_rfl) (fun W hW => by kernel_rfl) S3 (fun _ _ _ h => h) ?_
        simp only [Act.put, List.setIfInBounds_toArray, List.set_cons_zero, List.set_cons_succ]
        refine any_left (by kernel_rfl) ?_
        refine wpAny_tail 41 (by kernel_rfl) (by kernel_rfl) ?_
        simp only [List.drop_succ_cons, List.drop_zero]
        go_wp2
        go_ret
        exact ⟨rfl, by first | exact S3.below | exact S3.below.drew⟩
end
section
open Go.RowKit
structure OnV (w W : World) (R0 R1 : Nat) (C0 C1 : Array Value) (A5 A7 : Option Addr) (PB QB : List UInt8) : Prop where
  s : OnS w W R0 R1 C0 C1
  ra : RB W W.heap.size A5 PB
  rb : RB W W.heap.size A7 QB
theorem OnV.up {w W W' : World} {R0 R1 : Nat} {C0 C1 : Array Value} {A5 A7 : Option Addr} {PB QB : List UInt8} (h : OnV w W R0 R1 C0 C1 A5 A7 PB QB) (hb : Below W.heap.size W W') : OnV w W' R0 R1 C0 C1 A5 A7 PB QB := ⟨h.s.up hb, rb_up7 h.ra hb, rb_up7 h.rb hb⟩
theorem OnV.held {w W : World} {R0 R1 : Nat} {a a' k k' z z' : Int} {A C : Option Addr} {n c m d : Nat} {t1 t2 t3 t1' t2' t3' : ByteArray} {A5 A7 : Option Addr} {PB QB : List UInt8} (p5' c5 p7 c7 : Nat) (sp sq : ByteArray) (hp : p5' = PB.length) (hq : p7 = QB.length) (hsp : ({ data := PB.toArray } : ByteArray) = sp) (hsq : ({ data := QB.toArray } : ByteArray) = sq) (h : OnV w W R0 R1 #[.int .i64 a, .slice A n c, .int .i64 k, .string t1, .string t2, .int .i64 z, .string t3] #[.int .i64 a', .slice C m d, .int .i64 k', .string t1', .string t2', .int .i64 z', .string t3'] A5 A7 PB QB) : W.cell? ⟨R0, 0, none⟩ = some (.int .i64 a) ∧ W.cell? ⟨R0, 1, none⟩ = some (.slice A n c) ∧ W.cell? ⟨R0, 2, none⟩ = some (.int .i64 k) ∧ W.cell? ⟨R0, 3, none⟩ = some (.string t1) ∧ W.cell? ⟨R0, 4, none⟩ = some (.string t2) ∧ W.cell? ⟨R0, 5, none⟩ = some (.int .i64 z) ∧ W.cell? ⟨R0, 6, none⟩ = some (.string t3) ∧ W.cell? ⟨R1, 0, none⟩ = some (.int .i64 a') ∧ W.cell? ⟨R1, 1, none⟩ = some (.slice C m d) ∧ W.cell? ⟨R1, 2, none⟩ = some (.int .i64 k') ∧ W.cell? ⟨R1, 3, none⟩ = some (.string t1') ∧ W.cell? ⟨R1, 4, none⟩ = some (.string t2') ∧ W.cell? ⟨R1, 5, none⟩ = some (.int .i64 z') ∧ W.cell? ⟨R1, 6, none⟩ = some (.string t3') ∧ (convert 29 9 (.slice A5 p5' c5)).run Tryd.prog W = .ok (.string sp) W ∧ (convert 29 9 (.slice A7 p7 c7)).run Tryd.prog W = .ok (.string sq) W := by
  obtain ⟨p0, p1, p2, p3, p4, p5, p6, g0, g1, g2, g3, g4, g5, g6⟩ := OnS.held h.s
  subst hsp hsq
  exact ⟨p0, p1, p2, p3, p4, p5, p6, g0, g1, g2, g3, g4, g5, g6, aw_str h.ra p5' c5 hp, aw_str h.rb p7 c7 hq⟩
theorem upone_any (u v : Upd) (A C : Option Addr) (c d : Nat) (w : World) (hT : Tab w) (hr : SS w w.heap.size A u.preds) (hs : SS w w.heap.size C v.preds) (hc : u.preds.length ≤ c) (hcm : c ≤ 9223372036854775807) (hd : v.preds.length ≤ d) (hdm : d ≤ 9223372036854775807) :
    Calls Tryd.prog 5 #[updV u A c, updV v C d] w fun e w' => e = .returned (.bool true) ∧ Below w.heap.size w w' := by
  have HAw : Hid (∀ W, Below w.heap.size w W → Calls Tryd.prog 7 #[] W fun e w' => e = .returned (.bool true) ∧ Below W.heap.size W w') := fun W hb => awake15_any W (Tab.below hT hb)
  have HL0 : Hid (∀ W, Below w.heap.size w W → Calls Tryd.prog 6 #[updV u A c] W fun e w' => e = .returned (.bool u.big) ∧ Below W.heap.size W w') := fun W hb => uplarge_any u A c _ W (ssUpO hr hb) (Nat.le_refl _)
  have HL1 : Hid (∀ W, Below w.heap.size w W → Calls Tryd.prog 6 #[updV v C d] W fun e w' => e = .returned (.bool v.big) ∧ Below W.heap.size W w') := fun W hb => uplarge_any v C d _ W (ssUpO hs hb) (Nat.le_refl _)
  have HC0 : Hid (u.big = false → ∀ W, Below w.heap.size w W → Calls Tryd.prog 19 #[updV u A c] W fun e w' => e = .returned (.int .i64 u.check) ∧ Below W.heap.size W w') := fun h W hb => rucheck_any u A c _ W (ssUpO hr hb) (Nat.le_refl _) (by have := (big_small h).1; omega) (by have := (big_small h).2.1; omega)
  have HC1 : Hid (v.big = false → ∀ W, Below w.heap.size w W → Calls Tryd.prog 19 #[updV v C d] W fun e w' => e = .returned (.int .i64 v.check) ∧ Below W.heap.size W w') := fun h W hb => rucheck_any v C d _ W (ssUpO hs hb) (Nat.le_refl _) (by have := (big_small h).1; omega) (by have := (big_small h).2.1; omega)
  have HP0 : Hid (u.big = false → u.check = 0 → ∀ W, Below w.heap.size w W → Calls Tryd.prog 8 #[updV u A c] W fun e w' => ∃ X f, e = .returned (.tuple #[.slice X u.bytes.length f, .int .i64 0]) ∧ Hid (RB w' w'.heap.size X u.bytes) ∧ Hid (Below W.heap.size W w')) := fun h h2 W hb => (upput_any u A c W (ssUpO hr hb) (by have := (big_small h).1; omega) hc hcm (by have := (big_small h).2.1; omega) (by have := (big_small h).2.2.1; omega)).mono fun e w' hh => by
    obtain ⟨X, f, q1, q2, q3⟩ := hh
    have e0 : u.out = u.bytes := if_pos h2
    rw [e0, h2] at q1
    rw [e0] at q2
    exact ⟨X, f, q1, own_rb q2.out, q3⟩
  have HP1 : Hid (v.big = false → v.check = 0 → ∀ W, Below w.heap.size w W → Calls Tryd.prog 8 #[updV v C d] W fun e w' => ∃ X f, e = .returned (.tuple #[.slice X v.bytes.length f, .int .i64 0]) ∧ Hid (RB w' w'.heap.size X v.bytes) ∧ Hid (Below W.heap.size W w')) := fun h h2 W hb => (upput_any v C d W (ssUpO hs hb) (by have := (big_small h).1; omega) hd hdm (by have := (big_small h).2.1; omega) (by have := (big_small h).2.2.1; omega)).mono fun e w' hh => by
    obtain ⟨X, f, q1, q2, q3⟩ := hh
    have e0 : v.out = v.bytes := if_pos h2
    rw [e0, h2] at q1
    rw [e0] at q2
    exact ⟨X, f, q1, own_rb q2.out, q3⟩
  have HSm : Hid (u.big = false → v.big = false → ∀ W, Below w.heap.size w W → Calls Tryd.prog 14 #[updV u A c, updV v C d] W fun e w' => e = .returned (.bool (decide (u = v))) ∧ Below W.heap.size W w') := fun h1 h2 W hb => rusame_any u v A C c d _ W (ssUpO hr hb) (ssUpO hs hb) (Nat.le_refl _) (by have := (big_small h1).1; omega) (by have := (big_small h2).1; omega)
  have HBy : Hid (u.check = 0 → v.check = 0 → decide (u.bytes = v.bytes) = decide (u = v)) := fun h1 h2 => by
    rw [Bool.eq_iff_iff]
    simp only [decide_eq_true_eq]
    exact ⟨fun h => Upd.bytes_inj (Upd.check_ok.1 h1) (Upd.check_ok.1 h2) h, fun h => by rw [h]⟩
  obtain ⟨la, hla⟩ : ∃ x, x = u.big := ⟨_, rfl⟩
  obtain ⟨lb, hlb⟩ : ∃ x, x = v.big := ⟨_, rfl⟩
  obtain ⟨ca, hca⟩ : ∃ x, x = u.check := ⟨_, rfl⟩
  obtain ⟨cb, hcb⟩ : ∃ x, x = v.check := ⟨_, rfl⟩
  obtain ⟨PB, hPB⟩ : ∃ x, x = u.bytes := ⟨_, rfl⟩
  obtain ⟨QB, hQB⟩ : ∃ x, x = v.bytes := ⟨_, rfl⟩
  obtain ⟨uv, huv⟩ : ∃ x, x = decide (u = v) := ⟨_, rfl⟩
  rw [← hla] at HL0 HC0 HP0 HSm
  rw [← hlb] at HL1 HC1 HP1 HSm
  rw [← hca] at HC0 HP0
  rw [← hcb] at HC1 HP1
  rw [← hPB] at HP0
  rw [← hQB] at HP1
  rw [← huv] at HSm
  rw [← hca, ← hcb, ← hPB, ← hQB, ← huv] at HBy
  clear hla hlb hca hcb hPB hQB huv hr hs hc hcm hd hdm hT
  obtain ⟨a, p, k, nm, tx, z, x⟩ := u
  obtain ⟨a', q, k', nm', tx', z', x'⟩ := v
  obtain ⟨t1, h1⟩ : ∃ t, t = text nm := ⟨_, rfl⟩
  obtain ⟨t2, h2⟩ : ∃ t, t = text tx := ⟨_, rfl⟩
  obtain ⟨t3, h3⟩ : ∃ t, t = text x := ⟨_, rfl⟩
  obtain ⟨n, hnn⟩ : ∃ n, n = p.length := ⟨_, rfl⟩
  obtain ⟨t1', h1'⟩ : ∃ t, t = text nm' := ⟨_, rfl⟩
  obtain ⟨t2', h2'⟩ : ∃ t, t = text tx' := ⟨_, rfl⟩
  obtain ⟨t3', h3'⟩ : ∃ t, t = text x' := ⟨_, rfl⟩
  obtain ⟨m, hmm⟩ : ∃ n, n = q.length := ⟨_, rfl⟩
  have eU : updV ⟨a, p, k, nm, tx, z, x⟩ A c = .agg #[.int .i64 a, .slice A n c, .int .i64 k, .string t1, .string t2, .int .i64 z, .string t3] := by rw [h1, h2, h3, hnn]; rfl
  have eV : updV ⟨a', q, k', nm', tx', z', x'⟩ C d = .agg #[.int .i64 a', .slice C m d, .int .i64 k', .string t1', .string t2', .int .i64 z', .string t3'] := by rw [h1', h2', h3', hmm]; rfl
  rw [eU] at HL0 HC0 HP0 HSm ⊢
  rw [eV] at HL1 HC1 HP1 HSm ⊢
  clear eU eV h1 h2 h3 hnn h1' h2' h3' hmm
  have S0 : Hid (OnS w ((w.alloc (.cells #[.int .i64 a, .slice A n c, .int .i64 k, .string t1, .string t2, .int .i64 z, .string t3] 26)).alloc (.cells #[.int .i64 a', .slice C m d, .int .i64 k', .string t1', .string t2', .int .i64 z', .string t3'] 26)) w.heap.size (w.heap.size + 1) #[.int .i64 a, .slice A n c, .int .i64 k, .string t1, .string t2, .int .i64 z, .string t3] #[.int .i64 a', .slice C m d, .int .i64 k', .string t1', .string t2', .int .i64 z', .string t3']) := by
    have e0 : Below w.heap.size w (w.alloc (.cells #[.int .i64 a, .slice A n c, .int .i64 k, .string t1, .string t2, .int .i64 z, .string t3] 26)) := (Below.refl _ _).alloc (Nat.le_refl _) _
    have k1 := Blk.new (w.alloc (.cells #[.int .i64 a, .slice A n c, .int .i64 k, .string t1, .string t2, .int .i64 z, .string t3] 26)) 26 #[.int .i64 a', .slice C m d, .int .i64 k', .string t1', .string t2', .int .i64 z', .string t3']
    rw [show (w.alloc (.cells #[.int .i64 a, .slice A n c, .int .i64 k, .string t1, .string t2, .int .i64 z, .string t3] 26)).heap.size = w.heap.size + 1 by simp] at k1
    exact ⟨e0.alloc e0.size _, (Blk.new w _ _).alloc _, k1⟩
  obtain ⟨p0, p1, p2, p3, p4, p5, p6, g0, g1, g2, g3, g4, g5, g6⟩ := OnS.held S0.out
  have a26 := fun w' => Tryd.updAgg w'
  have s26 := fun w' => Tryd.updSize w'
  cases la with
  | true =>
    go_enter Tryd.func5, Tryd.ntmps5
    go_wp2_with (first
      | (go_at_call 7; (with_reducible refine (HAw.out _ S1.out.below).mono ?_); rintro e x9 ⟨rfl, b9⟩; have S9 := Lib.hid (OnS.up S1.out b9))
      | (go_at_call 6; (with_reducible refine (HL0.out _ S0.out.below).mono ?_); rintro e x1 ⟨rfl, b1⟩; have S1 := Lib.hid (OnS.up S0.out b1); clear p0 p1 p2 p3 p4 p5 p6 g0 g1 g2 g3 g4 g5 g6; obtain ⟨p0, p1, p2, p3, p4, p5, p6, g0, g1, g2, g3, g4, g5, g6⟩ := OnS.held S1.out))
    (try go_ret)
    exact ⟨rfl, S9.out.below⟩
  | false =>
    cases lb with
    | true =>
      go_enter Tryd.func5, Tryd.ntmps5
      go_wp2_with (first
        | (go_at_call 7; (with_reducible refine (HAw.out _ S2.out.below).mono ?_); rintro e x9 ⟨rfl, b9⟩; have S9 := Lib.hid (OnS.up S2.out b9))
        | (go_at_call 6; (with_reducible refine (HL1.out _ S1.out.below).mono ?_); rintro e x2 ⟨rfl, b2⟩; have S2 := Lib.hid (OnS.up S1.out b2); clear p0 p1 p2 p3 p4 p5 p6 g0 g1 g2 g3 g4 g5 g6; obtain ⟨p0, p1, p2, p3, p4, p5, p6, g0, g1, g2, g3, g4, g5, g6⟩ := OnS.held S2.out)
        | (go_at_call 6; (with_reducible refine (HL0.out _ S0.out.below).mono ?_); rintro e x1 ⟨rfl, b1⟩; have S1 := Lib.hid (OnS.up S0.out b1); clear p0 p1 p2 p3 p4 p5 p6 g0 g1 g2 g3 g4 g5 g6; obtain ⟨p0, p1, p2, p3, p4, p5, p6, g0, g1, g2, g3, g4, g5, g6⟩ := OnS.held S1.out))
      (try go_ret)
      exact ⟨rfl, S9.out.below⟩
    | false =>
      have HK0 := Lib.hid (HC0.out rfl)
      have HK1 := Lib.hid (HC1.out rfl)
      have HSn := Lib.hid (HSm.out rfl rfl)
      clear HC0 HC1 HSm
      by_cases hca : ca = 0
      · subst hca
        by_cases hcb : cb = 0
        · subst hcb
          have HB2 := Lib.hid (HBy.out rfl rfl)
          obtain ⟨p5', hp5⟩ : ∃ x, x = PB.length := ⟨_, rfl⟩
          obtain ⟨p7, hp7⟩ : ∃ x, x = QB.length := ⟨_, rfl⟩
          rw [← hp5] at HP0
          rw [← hp7] at HP1
          have HQ0 := Lib.hid (HP0.out rfl rfl)
          have HQ1 := Lib.hid (HP1.out rfl rfl)
          clear HP0 HP1
          have H5 := Lib.hid hp5
          have H7 := Lib.hid hp7
          obtain ⟨sp, hsp⟩ : ∃ x : ByteArray, ({ data := PB.toArray } : ByteArray) = x := ⟨_, rfl⟩
          obtain ⟨sq, hsq⟩ : ∃ x : ByteArray, ({ data := QB.toArray } : ByteArray) = x := ⟨_, rfl⟩
          have HSp := Lib.hid hsp
          have HSq := Lib.hid hsq
          have heq : (sp.toList == sq.toList) = uv := by
            have e1 : text PB = sp := hsp
            have e2 : text QB = sq := hsq
            rw [← e1, ← e2, text_eq]
            exact HB2.out
          clear hp5 hp7 hsp hsq HBy
          go_enter Tryd.func5, Tryd.ntmps5
          go_upto_region 5 with (first
            | (go_at_call 8; (with_reducible refine (HQ1.out _ S5.out.below).mono ?_); rintro e x6 ⟨A7, c7, rfl, r7, b6⟩; have S6 := Lib.hid (OnS.up S5.out b6.out); clear p0 p1 p2 p3 p4 p5 p6 g0 g1 g2 g3 g4 g5 g6)
            | (go_at_call 8; (with_reducible refine (HQ0.out _ S4.out.below).mono ?_); rintro e x5 ⟨A5, c5, rfl, r5, b5⟩; have S5 := Lib.hid (OnS.up S4.out b5.out); clear p0 p1 p2 p3 p4 p5 p6 g0 g1 g2 g3 g4 g5 g6; obtain ⟨p0, p1, p2, p3, p4, p5, p6, g0, g1, g2, g3, g4, g5, g6⟩ := OnS.held S5.out)
            | (go_at_call 19; (with_reducible refine (HK1.out _ S3.out.below).mono ?_); rintro e x4 ⟨rfl, b4⟩; have S4 := Lib.hid (OnS.up S3.out b4); clear p0 p1 p2 p3 p4 p5 p6 g0 g1 g2 g3 g4 g5 g6; obtain ⟨p0, p1, p2, p3, p4, p5, p6, g0, g1, g2, g3, g4, g5, g6⟩ := OnS.held S4.out)
            | (go_at_call 19; (with_reducible refine (HK0.out _ S2.out.below).mono ?_); rintro e x3 ⟨rfl, b3⟩; have S3 := Lib.hid (OnS.up S2.out b3); clear p0 p1 p2 p3 p4 p5 p6 g0 g1 g2 g3 g4 g5 g6; obtain ⟨p0, p1, p2, p3, p4, p5, p6, g0, g1, g2, g3, g4, g5, g6⟩ := OnS.held S3.out)
            | (go_at_call 6; (with_reducible refine (HL1.out _ S1.out.below).mono ?_); rintro e x2 ⟨rfl, b2⟩; have S2 := Lib.hid (OnS.up S1.out b2); clear p0 p1 p2 p3 p4 p5 p6 g0 g1 g2 g3 g4 g5 g6; obtain ⟨p0, p1, p2, p3, p4, p5, p6, g0, g1, g2, g3, g4, g5, g6⟩ := OnS.held S2.out)
            | (go_at_call 6; (with_reducible refine (HL0.out _ S0.out.below).mono ?_); rintro e x1 ⟨rfl, b1⟩; have S1 := Lib.hid (OnS.up S0.out b1); clear p0 p1 p2 p3 p4 p5 p6 g0 g1 g2 g3 g4 g5 g6; obtain ⟨p0, p1, p2, p3, p4, p5, p6, g0, g1, g2, g3, g4, g5, g6⟩ := OnS.held S1.out))
          have P6 : Hid (OnV w x6 w.heap.size (w.heap.size + 1) #[.int .i64 a, .slice A n c, .int .i64 k, .string t1, .string t2, .int .i64 z, .string t3] #[.int .i64 a', .slice C m d, .int .i64 k', .string t1', .string t2', .int .i64 z', .string t3'] A5 A7 PB QB) := ⟨S6.out, rb_up7 r5.out b6.out, r7.out⟩
          clear S0 S1 S2 S3 S4 S5 S6 r5 r7 b1 b2 b3 b4 b5 b6 HL0 HL1 HK0 HK1 HQ0 HQ1
          have P0 : OnV w x6.drew w.heap.size (w.heap.size + 1) #[.int .i64 a, .slice A n c, .int .i64 k, .string t1, .string t2, .int .i64 z, .string t3] #[.int .i64 a', .slice C m d, .int .i64 k', .string t1', .string t2', .int .i64 z', .string t3'] A5 A7 PB QB := OnV.up P6.out ⟨rfl, rfl, rfl, Nat.le_refl _, fun _ _ => rfl⟩
          have h0 := OnV.held p5' c5 p7 c7 sp sq H5.out H7.out HSp.out HSq.out P0
          clear P6 HB2
          cases uv
          all_goals
            go_region_held_law (fun w' => w'.cell? ⟨w.heap.size, 0, none⟩ = some (.int .i64 a) ∧ w'.cell? ⟨w.heap.size, 1, none⟩ = some (.slice A n c) ∧ w'.cell? ⟨w.heap.size, 2, none⟩ = some (.int .i64 k) ∧ w'.cell? ⟨w.heap.size, 3, none⟩ = some (.string t1) ∧ w'.cell? ⟨w.heap.size, 4, none⟩ = some (.string t2) ∧ w'.cell? ⟨w.heap.size, 5, none⟩ = some (.int .i64 z) ∧ w'.cell? ⟨w.heap.size, 6, none⟩ = some (.string t3) ∧ w'.cell? ⟨w.heap.size + 1, 0, none⟩ = some (.int .i64 a') ∧ w'.cell? ⟨w.heap.size + 1, 1, none⟩ = some (.slice C m d) ∧ w'.cell? ⟨w.heap.size + 1, 2, none⟩ = some (.int .i64 k') ∧ w'.cell? ⟨w.heap.size + 1, 3, none⟩ = some (.string t1') ∧ w'.cell? ⟨w.heap.size + 1, 4, none⟩ = some (.string t2') ∧ w'.cell? ⟨w.heap.size + 1, 5, none⟩ = some (.int .i64 z') ∧ w'.cell? ⟨w.heap.size + 1, 6, none⟩ = some (.string t3') ∧ (convert 29 9 (.slice A5 p5' c5)).run Tryd.prog w' = .ok (.string sp) w' ∧ (convert 29 9 (.slice A7 p7 c7)).run Tryd.prog w' = .ok (.string sq) w')
              (exact OnV.held p5' c5 p7 c7 sp sq H5.out H7.out HSp.out HSq.out (by assumption))
              (first
                | (go_at_call 14; (with_reducible refine (HSn.out _ P0.s.below).mono ?_); rintro e y1 ⟨rfl, d1⟩; have P1 : OnV w y1 w.heap.size (w.heap.size + 1) #[.int .i64 a, .slice A n c, .int .i64 k, .string t1, .string t2, .int .i64 z, .string t3] #[.int .i64 a', .slice C m d, .int .i64 k', .string t1', .string t2', .int .i64 z', .string t3'] A5 A7 PB QB := OnV.up (by assumption) d1)
                | (go_at_call 7; (with_reducible refine (HAw.out _ P1.s.below).mono ?_); rintro e y2 ⟨rfl, d2⟩; have P2 : OnV w y2 w.heap.size (w.heap.size + 1) #[.int .i64 a, .slice A n c, .int .i64 k, .string t1, .string t2, .int .i64 z, .string t3] #[.int .i64 a', .slice C m d, .int .i64 k', .string t1', .string t2', .int .i64 z', .string t3'] A5 A7 PB QB := OnV.up (by assumption) d2))
            go_wp2
            go_ret
            have PE : OnV w y2 w.heap.size (w.heap.size + 1) #[.int .i64 a, .slice A n c, .int .i64 k, .string t1, .string t2, .int .i64 z, .string t3] #[.int .i64 a', .slice C m d, .int .i64 k', .string t1', .string t2', .int .i64 z', .string t3'] A5 A7 PB QB := by assumption
            exact ⟨rfl, by first | exact PE.s.below | exact PE.s.below.drew⟩
        · have dC : decide (cb = 0) = false := decide_eq_false hcb
          go_enter Tryd.func5, Tryd.ntmps5
          go_wp2_with (first
            | (go_at_call 7; (with_reducible refine (HAw.out _ S4.out.below).mono ?_); rintro e x9 ⟨rfl, b9⟩; have S9 := Lib.hid (OnS.up S4.out b9))
            | (go_at_call 19; (with_reducible refine (HK1.out _ S3.out.below).mono ?_); rintro e x4 ⟨rfl, b4⟩; have S4 := Lib.hid (OnS.up S3.out b4); clear p0 p1 p2 p3 p4 p5 p6 g0 g1 g2 g3 g4 g5 g6; obtain ⟨p0, p1, p2, p3, p4, p5, p6, g0, g1, g2, g3, g4, g5, g6⟩ := OnS.held S4.out)
            | (go_at_call 19; (with_reducible refine (HK0.out _ S2.out.below).mono ?_); rintro e x3 ⟨rfl, b3⟩; have S3 := Lib.hid (OnS.up S2.out b3); clear p0 p1 p2 p3 p4 p5 p6 g0 g1 g2 g3 g4 g5 g6; obtain ⟨p0, p1, p2, p3, p4, p5, p6, g0, g1, g2, g3, g4, g5, g6⟩ := OnS.held S3.out)
            | (go_at_call 6; (with_reducible refine (HL1.out _ S1.out.below).mono ?_); rintro e x2 ⟨rfl, b2⟩; have S2 := Lib.hid (OnS.up S1.out b2); clear p0 p1 p2 p3 p4 p5 p6 g0 g1 g2 g3 g4 g5 g6; obtain ⟨p0, p1, p2, p3, p4, p5, p6, g0, g1, g2, g3, g4, g5, g6⟩ := OnS.held S2.out)
            | (go_at_call 6; (with_reducible refine (HL0.out _ S0.out.below).mono ?_); rintro e x1 ⟨rfl, b1⟩; have S1 := Lib.hid (OnS.up S0.out b1); clear p0 p1 p2 p3 p4 p5 p6 g0 g1 g2 g3 g4 g5 g6; obtain ⟨p0, p1, p2, p3, p4, p5, p6, g0, g1, g2, g3, g4, g5, g6⟩ := OnS.held S1.out))
          (try go_ret)
          exact ⟨rfl, S9.out.below⟩
      · have dC : decide (ca = 0) = false := decide_eq_false hca
        go_enter Tryd.func5, Tryd.ntmps5
        go_wp2_with (first
          | (go_at_call 7; (with_reducible refine (HAw.out _ S3.out.below).mono ?_); rintro e x9 ⟨rfl, b9⟩; have S9 := Lib.hid (OnS.up S3.out b9))
          | (go_at_call 19; (with_reducible refine (HK0.out _ S2.out.below).mono ?_); rintro e x3 ⟨rfl, b3⟩; have S3 := Lib.hid (OnS.up S2.out b3); clear p0 p1 p2 p3 p4 p5 p6 g0 g1 g2 g3 g4 g5 g6; obtain ⟨p0, p1, p2, p3, p4, p5, p6, g0, g1, g2, g3, g4, g5, g6⟩ := OnS.held S3.out)
          | (go_at_call 6; (with_reducible refine (HL1.out _ S1.out.below).mono ?_); rintro e x2 ⟨rfl, b2⟩; have S2 := Lib.hid (OnS.up S1.out b2); clear p0 p1 p2 p3 p4 p5 p6 g0 g1 g2 g3 g4 g5 g6; obtain ⟨p0, p1, p2, p3, p4, p5, p6, g0, g1, g2, g3, g4, g5, g6⟩ := OnS.held S2.out)
          | (go_at_call 6; (with_reducible refine (HL0.out _ S0.out.below).mono ?_); rintro e x1 ⟨rfl, b1⟩; have S1 := Lib.hid (OnS.up S0.out b1); clear p0 p1 p2 p3 p4 p5 p6 g0 g1 g2 g3 g4 g5 g6; obtain ⟨p0, p1, p2, p3, p4, p5, p6, g0, g1, g2, g3, g4, g5, g6⟩ := OnS.held S1.out))
        (try go_ret)
        exact ⟨rfl, S9.out.below⟩
end
end Go.Proofs.YtinphkflfdpaeaaDoor
