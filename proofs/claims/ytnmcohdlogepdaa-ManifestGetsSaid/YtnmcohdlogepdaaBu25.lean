/- Lemmas under the proofs of this place: ManAwake. No statement is proved here. -/
import Derived.Test.YtnmcohdlogepdaaBu21
import Derived.Test.YtnmcohdlogepdaaBu10
import Derived.Test.YtnmcohdlogepdaaBu17
import Derived.Test.YtnmcohdlogepdaaBu24
import Derived.Test.YtnmcohdlogepdaaBu22
import Derived.Test.YtnmcohdlogepdaaBu19
import Derived.Test.YtnmcohdlogepdaaBu20
set_option linter.unusedVariables false
set_option linter.unusedSimpArgs false
namespace Go.Proofs.Ytnmcohdlogepdaa
open Go.RowKit
theorem mget_any (b : List UInt8) (A : Option Addr) (c : Nat) (w : World) (hr : RB w w.heap.size A b) (hc : b.length ≤ c) (hcm : c ≤ 9223372036854775807) (hl : b.length ≤ 1000) : Calls Try.prog 6 #[.slice A b.length c] w (GivesMf (Mf.get b) w) := (mget_new b A c w hr hc hcm hl).mono fun _ _ h => h.get
theorem mput_any (m : Mf) (A : Option Addr) (c : Nat) (w : World) (h : MfAt w m A c) : Calls Try.prog 8 #[mfV m A c] w (GivesBy (Mf.put m) w) := (mput_own m A c w h).mono fun _ _ h => h.by_
theorem mseal_any (L : List UInt8) (A : Option Addr) (c : Nat) (w : World) (hr : RB w w.heap.size A L) (hl : L.length ≤ 1000) : Calls Try.prog 5 #[.slice A L.length c] w fun e w' => ∃ B d, e = .returned (.slice B (sealL L).length d) ∧ RB w' w'.heap.size B (sealL L) ∧ ((sealL L).length ≤ d ∧ d ≤ 9223372036854775807) ∧ Below w.heap.size w w' :=
  (refSeal_any L A c _ w hr (by omega)).mono fun e w' h => by
    obtain ⟨B, d, he, ho, hb⟩ := h
    have h1 := own_cap7 ho
    exact ⟨B, d, he, own_rb ho, h1.2, hb⟩
def awM : Mf := ⟨[⟨9, 300, 2⟩], ⟨4, 1, 2⟩⟩
def awZ : List UInt8 := [3, 109, 97, 110, 0, 0]
def awT : List UInt8 := [3, 109, 97, 110, 0, 2]
theorem awM_check : awM.check = 0 := by decide
theorem aw_put0 : Mf.put Mf.zero = (sealL awZ, 0) := by
  have e : Mf.zero.own = awZ := by decide
  unfold Mf.put
  rw [if_pos (by decide), e]
theorem aw_put : Mf.put awM = (sealL awM.own, 0) := by
  unfold Mf.put
  rw [if_pos awM_check]
theorem aw_get : Mf.get (sealL awM.own) = (awM, 0) := by
  have h := Mf.get_put awM_check
  rwa [aw_put] at h
theorem aw_more : openL (sealL awM.own ++ [0]) = none := by decide +kernel
theorem aw_get2 : Mf.get (sealL awM.own ++ [0]) = (Mf.zero, 12) := by
  unfold Mf.get
  rw [aw_more]
theorem aw_get3 : Mf.get (sealL awT) = (Mf.zero, 5) := by
  have e : Mf.tells (awT.drop 4) = some Mf.zero := by decide +kernel
  unfold Mf.get
  rw [open_seal]
  simp only [e]
  rw [if_neg (by decide +kernel)]
theorem aw_len : (sealL awM.own).length = 17 := by
  rw [sealL_length]
  decide +kernel
structure MVar (w W : World) (g : Nat) (A : Option Addr) (c : Nat) : Prop where
  below : Below w.heap.size w W
  k0 : W.cell? ⟨g, 0, none⟩ = some (.slice A 1 c)
  k1 : W.cell? ⟨g, 1, none⟩ = some (.int .i64 4)
  k2 : W.cell? ⟨g, 2, none⟩ = some (.int .i64 1)
  k3 : W.cell? ⟨g, 3, none⟩ = some (.int .i64 2)
  a : MfAt W awM A c
theorem rb_newf (w : World) (L : List UInt8) (fz : Nat × Nat) : RB (w.alloc (.cells (cells L).toArray 5 fz)) (w.alloc (.cells (cells L).toArray 5 fz)).heap.size (some ⟨w.heap.size, 0, none⟩) L := by
  have h : (w.alloc (.cells (cells L).toArray 5 fz)).heap[w.heap.size]? = some (.cells (cells L).toArray 5 fz) := heap_alloc_new w _
  refine ⟨by rw [cells_length, Nat.mul_one], fun h0 => ⟨_, rfl, by simp, fun j u hu => ?_⟩⟩
  rw [addM, Nat.zero_add, cell_of_row _ _ _ _ _ _ h, List.getElem?_toArray]
  exact hu
theorem two_below (w : World) (o p : Obj) : Below w.heap.size w ((w.alloc o).alloc p) := ((Below.refl _ _).alloc (Nat.le_refl _) o).alloc (by simp) p
section
variable {w W W' w1 w3 : World} {g : Nat} {A : Option Addr} {c : Nat}
theorem MVar.lt (h : MVar w W g A c) : g < W.heap.size := World.block_lt_of_cell? W _ h.k0
theorem MVar.up (h : MVar w W g A c) (hb : Below W.heap.size W W') : MVar w W' g A c :=
  ⟨chainM h.below hb, (hb.cell (p := ⟨g, 0, none⟩) h.lt).trans h.k0, (hb.cell (p := ⟨g, 1, none⟩) h.lt).trans h.k1, (hb.cell (p := ⟨g, 2, none⟩) h.lt).trans h.k2, (hb.cell (p := ⟨g, 3, none⟩) h.lt).trans h.k3, h.a.up hb⟩
theorem mvar_blk (hb : Below w.heap.size w W) (hk : Blk W g 29 #[.slice A 1 c, .int .i64 4, .int .i64 1, .int .i64 2]) (ha : MfAt W awM A c) : MVar w W g A c := by
  obtain ⟨q0, q1, q2, q3⟩ := blk4 hk
  exact ⟨hb, q0, q1, q2, q3, ha⟩
theorem mvar_new (hb : Below w.heap.size w w1) : MVar w ((w1.alloc (.cells #[.int .i64 9, .int .i64 300, .int .i64 2] 27)).alloc (.cells #[.slice (some ⟨w1.heap.size, 0, none⟩) 1 1, .int .i64 4, .int .i64 1, .int .i64 2] 29)) (w1.heap.size + 1) (some ⟨w1.heap.size, 0, none⟩) 1 := by
  have h1 := Blk.new w1 27 #[.int .i64 9, .int .i64 300, .int .i64 2]
  have h2 := Blk.new (w1.alloc (.cells #[.int .i64 9, .int .i64 300, .int .i64 2] 27)) 29 #[.slice (some ⟨w1.heap.size, 0, none⟩) 1 1, .int .i64 4, .int .i64 1, .int .i64 2]
  rw [show (w1.alloc (.cells #[.int .i64 9, .int .i64 300, .int .i64 2] 27)).heap.size = w1.heap.size + 1 by simp] at h2
  exact mvar_blk ((hb.alloc hb.size _).alloc (by have := hb.size; simp; omega) _) h2 ⟨ptl_blk (l := [⟨9, 300, 2⟩]) (h1.alloc _), ⟨Nat.le_refl _, by decide⟩, by decide⟩
theorem mvar_got (hb : Below w.heap.size w w3) (h : MfAt w3 awM A c) : MVar w (w3.alloc (.cells #[.slice A 1 c, .int .i64 4, .int .i64 1, .int .i64 2] 29)) w3.heap.size A c :=
  mvar_blk (hb.alloc hb.size _) (Blk.new _ _ _) (h.up ((Below.refl _ _).alloc (Nat.le_refl _) _))
theorem MVar.far (h : MVar w W g A c) {v : Value} (hb : Below w.heap.size w W') (hz : W.heap.size ≤ W'.heap.size) (f : ∀ p u, W.cell? p = some u → v.ownBlock ≠ some p.block → W'.cell? p = some u) (hg : v.ownBlock ≠ some g) (hA : ∀ ad, A = some ad → v.ownBlock ≠ some ad.block) : MVar w W' g A c := by
  refine ⟨hb, f _ _ h.k0 hg, f _ _ h.k1 hg, f _ _ h.k2 hg, f _ _ h.k3 hg, ⟨fun h0 => ?_, h.a.cap, h.a.few⟩⟩
  obtain ⟨b, off, e, hlt, hc⟩ := h.a.segs h0
  have hne := hA _ e
  refine ⟨b, off, e, Nat.lt_of_lt_of_le hlt hz, fun i hi => ?_⟩
  obtain ⟨c0, c1, c2⟩ := hc i hi
  exact ⟨f _ _ c0 hne, f _ _ c1 hne, f _ _ c2 hne⟩
theorem rb_far12 {L : List UInt8} (h : RB W W.heap.size A L) {v : Value} (hz : W.heap.size ≤ W'.heap.size) (f : ∀ p u, W.cell? p = some u → v.ownBlock ≠ some p.block → W'.cell? p = some u) (hA : ∀ ad, A = some ad → v.ownBlock ≠ some ad.block) : RB W' W'.heap.size A L := by
  refine ⟨h.1, fun h0 => ?_⟩
  obtain ⟨ad, e, hlt, hc⟩ := h.2 h0
  refine ⟨ad, e, Nat.lt_of_lt_of_le hlt hz, fun j u hu => f _ _ (hc j u hu) (by rw [block_of_add]; exact hA ad e)⟩
end
theorem MVar.range {w W : World} {g : Nat} {A : Option Addr} {c : Nat} (h : MVar w W g A c) : W.rangeAt g 0 [.slice A 1 c, .int .i64 4, .int .i64 1, .int .i64 2] := by
  intro j v hj
  match j with
  | 0 => simp at hj; rw [← hj]; exact h.k0
  | 1 => simp at hj; rw [← hj]; exact h.k1
  | 2 => simp at hj; rw [← hj]; exact h.k2
  | 3 => simp at hj; rw [← hj]; exact h.k3
  | j + 4 => simp at hj
theorem MVar.snap {w W : World} {g : Nat} {A : Option Addr} {c : Nat} (h : MVar w W g A c) : W.rangeAt g 1 [.int .i64 4, .int .i64 1, .int .i64 2] := by
  intro j v hj
  match j with
  | 0 => simp at hj; rw [← hj]; exact h.k1
  | 1 => simp at hj; rw [← hj]; exact h.k2
  | 2 => simp at hj; rw [← hj]; exact h.k3
  | j + 3 => simp at hj
def SAw (w W : World) (g gx : Nat) (A1 A3 : Option Addr) (c3 : Nat) (Z : List UInt8) (bp op : Nat) : Prop := MVar w W (g + 1) (some ⟨g, 0, none⟩) 1 ∧ MVar w W gx A3 c3 ∧ RB W W.heap.size A1 Z ∧ W.cell? ⟨bp, op + 3, none⟩ = some (.int .i64 4)
theorem SAw.up {w W W' : World} {g gx : Nat} {A1 A3 : Option Addr} {c3 : Nat} {Z : List UInt8} {bp op : Nat} (h : SAw w W g gx A1 A3 c3 Z bp op) (hb : Below W.heap.size W W') : SAw w W' g gx A1 A3 c3 Z bp op :=
  ⟨h.1.up hb, h.2.1.up hb, rb_upM h.2.2.1 hb, (hb.cell (p := ⟨bp, op + 3, none⟩) (World.block_lt_of_cell? W _ h.2.2.2)).trans h.2.2.2⟩
theorem op_value_d {P : Program} {ops : Array Oper} {Q : Exit → Act → World → Prop} {i : Nat} {oi : Oper} {K : Act → World → Prop} {a : Act} {w w' : World} (v : Value) (d : Nat) (hi : ops[i]? = some oi) (hd : oi.dst = some d) (hw : Region.wanted oi (yielded ops a.tmps) = true) (hy : (execOp a.eval oi).run P w = .ok (.value v) w')
    (h : K (a.put (some d) v) w') : wpOp P ops Q i K a w := by
  rw [← hd] at h
  exact op_value v hi hw hy rfl h
theorem str_run {o : Oper} {a : Act} {W : World} (x : Operand) (A : Option Addr) (n c : Nat) (Z : List UInt8) (ho : o.op = .convert 22 9 x) (hx : a.eval x = .slice A n c) (hc : (convert 22 9 (.slice A n c)).run Try.prog W = .ok (.string ⟨Z.toArray⟩) W) : (execOp a.eval o).run Try.prog W = .ok (.value (.string ⟨Z.toArray⟩)) W := by
  unfold execOp
  simp only [ho, hx, Sem.run_bind, hc, Result.andThen_ok, Sem.run_pure]
theorem fz_run {o : Oper} {a : Act} (x : Operand) (W : World) (g n c : Nat) (C : Array Value) (ho : o.op = .convert 22 22 x) (hx : a.eval x = .slice (some ⟨g, 0, none⟩) n c) (hg : g = W.heap.size) : (execOp a.eval o).run Try.prog (W.alloc (.cells C 5)) = .ok (.value (.slice (some ⟨g, 0, none⟩) n c)) (W.alloc (.cells C 5 (C.size, C.size + 1))) := by
  have h := Joins.run_convert_bytes_const_at (P := Try.prog) W 22 5 C n c g hg Try.underlying22 Try.underlying5
  unfold execOp
  simp only [ho, hx, Sem.run_bind, h, Result.andThen_ok, Sem.run_pure]
theorem seql_run {o : Oper} {a : Act} {W : World} (x y : Operand) (s : ByteArray) (ho : o.op = .binOp .eql 9 x y 9) (hx : a.eval x = .string s) (hy : a.eval y = .string s) : (execOp a.eval o).run Try.prog W = .ok (.value (.bool true)) W := by
  have hv : (binOp .eql 9 (.string s) (.string s)).run Try.prog W = .ok (.bool true) W := by simp [go_sem]
  have hg : (eqGuard .eql 9 x y (.string s) (.string s)).run Try.prog W = .ok () W := by unfold eqGuard; rfl
  unfold execOp
  simp only [ho, hx, hy, Sem.run_bind, hg, Result.andThen_ok, hv, Sem.run_pure]
theorem pidx_run {o : Oper} {a : Act} {W : World} (x y : Operand) (b off n c i : Nat) (ho : o.op = .indexAddr 25 x y) (hx : a.eval x = .slice (some ⟨b, off, none⟩) n c) (hy : a.eval y = .int .i64 (i : Int)) (hi : i < n) :
    (execOp a.eval o).run Try.prog W = .ok (.value (.pointer (some ⟨b, off + i * 3, none⟩))) W := by
  have hu : (underlying 25).run Try.prog W = .ok (.slice 27) W := by kernel_rfl
  have hs : (sizeOf 27).run Try.prog W = .ok 3 W := by kernel_rfl
  unfold execOp
  simp [ho, hx, hy, Instr.indexAt, asIntOf, hu, hi, hs, addM]
theorem pfld_run {o : Oper} {a : Act} {W : World} (x : Operand) (b off : Nat) (ho : o.op = .fieldAddr 27 x 0) (hx : a.eval x = .pointer (some ⟨b, off, none⟩)) : (execOp a.eval o).run Try.prog W = .ok (.value (.pointer (some ⟨b, off, none⟩))) W := by
  unfold execOp
  simp only [ho, hx]
  kernel_rfl
set_option maxRecDepth 100000 in
set_option maxHeartbeats 8000000 in
theorem awake12_any (w : World) : Calls Try.prog 4 #[] w fun e w' => e = .returned (.bool true) ∧ Below w.heap.size w w' := by
  have g0 := fun w' => Try.manAgg w'
  have t0 := fun w' => Try.manSize w'
  have z0 := fun w' => Try.manZero w'
  have z1 := fun w' => Try.partBuild0 w'
  have hcv : ∀ (W : World) (g n c : Nat) (C : Array Value), g = W.heap.size → (convert 22 22 (.slice (some ⟨g, 0, none⟩) n c)).run Try.prog (W.alloc (.cells C 5)) = .ok (.slice (some ⟨g, 0, none⟩) n c) (W.alloc (.cells C 5 (C.size, C.size + 1))) := fun W g n c C h => Joins.run_convert_bytes_const_at W 22 5 C n c g h Try.underlying22 Try.underlying5
  obtain ⟨Z, hZ⟩ : ∃ Z, Z = sealL awZ := ⟨_, rfl⟩
  obtain ⟨C, hC⟩ : ∃ C, C = sealL awM.own := ⟨_, rfl⟩
  obtain ⟨T, hT⟩ : ∃ T, T = sealL awT := ⟨_, rfl⟩
  have lZ : Z.length = 10 := by rw [hZ, sealL_length]; rfl
  have lT : T.length = 10 := by rw [hT, sealL_length]; rfl
  have lC : C.length = 17 := by rw [hC]; exact aw_len
  have LZ := Lib.hid lZ
  have HP0 : Hid (∀ W, Calls Try.prog 8 #[.agg #[.slice none 0 0, .int .i64 0, .int .i64 0, .int .i64 0]] W fun e w' => ∃ A c, e = .returned (.tuple #[.slice A 10 c, .int .i64 0]) ∧ Hid (RB w' w'.heap.size A Z) ∧ Below W.heap.size W w') := fun W => (mput_any Mf.zero none 0 W (mfAt_zero W)).mono fun e w' h => by
    obtain ⟨A, c, he, hr, hb⟩ := h
    rw [aw_put0, ← hZ] at he hr
    rw [lZ] at he
    exact ⟨A, c, he, hr, hb⟩
  have HPm : Hid (∀ W A c, MfAt W awM A c → Calls Try.prog 8 #[.agg #[.slice A 1 c, .int .i64 4, .int .i64 1, .int .i64 2]] W fun e w' => ∃ B d, e = .returned (.tuple #[.slice B 17 d, .int .i64 0]) ∧ Hid (w'.ownsRow W.heap.size 5 1 (.slice B 17 d) 17 (cells C)) ∧ Below W.heap.size W w') := fun W A c h => (mput_own awM A c W h).mono fun e w' h => by
    obtain ⟨B, d, he, ho, hb⟩ := h
    rw [aw_put, ← hC] at he ho
    rw [lC] at he
    have ho' : w'.ownsRow W.heap.size 5 1 (.slice B C.length d) C.length (cells C) := ho
    rw [lC] at ho'
    exact ⟨B, d, he, ho', hb⟩
  have HG : Hid (∀ W (L : List UInt8) (N : Nat) B d base (x : Mf × Int), W.ownsRow base 5 1 (.slice B N d) N (cells L) → N = L.length → N ≤ 1000 → Mf.get L = x → Calls Try.prog 6 #[.slice B N d] W (GivesMfN x W)) := fun W L N B d base x ho hN h1 hx => by
    subst hN
    have hc := own_cap7 (L := L) ho
    rw [← hx]
    exact mget_new L B d W hc.1 hc.2.1 hc.2.2 h1
  have HGy : Hid (∀ W (L : List UInt8) (N : Nat) B d base, W.ownsRow base 5 1 (.slice B N d) N (cells L) → N = L.length → N ≤ 1000 → Mf.get L = (awM, 0) → Calls Try.prog 6 #[.slice B N d] W fun e w' => ∃ A c, e = .returned (.tuple #[.agg #[.slice A 1 c, .int .i64 4, .int .i64 1, .int .i64 2], .int .i64 0]) ∧ MfAt w' awM A c ∧ Below W.heap.size W w' ∧ ∀ ad, A = some ad → W.heap.size ≤ ad.block) := fun W L N B d base ho hN h1 hx => HG.out W L N B d base _ ho hN h1 hx
  have HGn : Hid (∀ W (L : List UInt8) (N : Nat) B d base E, W.ownsRow base 5 1 (.slice B N d) N (cells L) → N = L.length → N ≤ 1000 → Mf.get L = (Mf.zero, E) → Calls Try.prog 6 #[.slice B N d] W fun e w' => ∃ A c, e = .returned (.tuple #[.agg #[.slice A 0 c, .int .i64 0, .int .i64 0, .int .i64 0], .int .i64 E]) ∧ Below W.heap.size W w') := fun W L N B d base E ho hN h1 hx => (HG.out W L N B d base _ ho hN h1 hx).mono fun e w' h => by
    obtain ⟨A, c, he, _, hb, _⟩ := h
    exact ⟨A, c, he, hb⟩
  have HS : Hid (∀ W (L : List UInt8) (N M : Nat) B d, RB W W.heap.size B L → N = L.length → (sealL L).length = M → N ≤ 1000 → Calls Try.prog 5 #[.slice B N d] W fun e w' => ∃ B' d', e = .returned (.slice B' M d') ∧ Hid (w'.ownsRow W.heap.size 5 1 (.slice B' M d') M (cells (sealL L))) ∧ Below W.heap.size W w') := fun W L N M B d hr hN hM h1 => by
    subst hN hM
    exact refSeal_any L B d _ W hr (by omega)
  have HPa : Hid (∀ W A c, MfAt W awM A c → Calls Try.prog 10 #[.agg #[.slice A 1 c, .int .i64 4, .int .i64 1, .int .i64 2]] W fun e w' => ∃ b off d, e = .returned (.slice (some ⟨b, off, none⟩) 2 d) ∧ Hid (w'.cell? ⟨b, off + 3, none⟩ = some (.int .i64 4)) ∧ Hid (b < w'.heap.size) ∧ Below W.heap.size W w') := fun W A c h => (mparts_any awM A c W h).mono fun e w' h => by
    obtain ⟨B, d, he, hp, hb⟩ := h
    obtain ⟨b, off, e2, hlt, hc⟩ := hp.out (by decide)
    subst e2
    exact ⟨b, off, d, he, (hc 1 (by decide)).1, hlt, hb⟩
  have HSm : Hid (∀ W A c A' c', MfAt W awM A c → MfAt W awM A' c' → Calls Try.prog 9 #[.agg #[.slice A 1 c, .int .i64 4, .int .i64 1, .int .i64 2], .agg #[.slice A' 1 c', .int .i64 4, .int .i64 1, .int .i64 2]] W fun e w' => e = .returned (.bool true) ∧ Below W.heap.size W w') := fun W A c A' c' h h' => rmsame_yes awM A A' c c' W h h'
  have HSp : Hid (∀ W A c A' c', MfAt W awM A c → MfAt W awM A' c' → Calls Try.prog 12 #[.agg #[.slice A 1 c, .int .i64 4, .int .i64 1, .int .i64 2], .agg #[.slice A' 1 c', .int .i64 4, .int .i64 1, .int .i64 2]] W fun e w' => e = .returned (.bool true) ∧ Below W.heap.size W w') := fun W A c A' c' h h' => msame_yes awM A A' c c' W h h'
  have HCk : Hid (∀ W (l : List Pt) (N : Nat) g c v, Blk W g 27 (ptCells l).toArray → N = l.length → N ≤ c ∧ c ≤ 100 → Mf.check ⟨l, Pt.z⟩ = v → Calls Try.prog 11 #[.agg #[.slice (some ⟨g, 0, none⟩) N c, .int .i64 0, .int .i64 0, .int .i64 0]] W fun e w' => e = .returned (.int .i64 v) ∧ Below W.heap.size W w') := fun W l N g c v hk hN hc hv => by
    subst hN hv
    exact mcheck_any ⟨l, Pt.z⟩ (some ⟨g, 0, none⟩) c W ⟨ptl_blk hk, ⟨hc.1, by omega⟩, by show l.length ≤ 1000; omega⟩
  have eC : Hid (Mf.get C = (awM, 0)) := by show _ = _; rw [hC]; exact aw_get
  have eC2 : Hid (Mf.get (C ++ [0]) = (Mf.zero, 12)) := by show _ = _; rw [hC]; exact aw_get2
  have eT : Hid (Mf.get (sealL awT) = (Mf.zero, 5)) := aw_get3
  have LC := Lib.hid lC
  have lT' : Hid ((sealL awT).length = 10) := by show _ = _; rw [← hT]; exact lT
  have lZ' : Hid ((sealL awZ).length = 10) := by show _ = _; rw [← hZ]; exact lZ
  have EZ := Lib.hid hZ
  have L18 : Hid (18 = (C ++ [0]).length) := by show _ = _; rw [List.length_append, lC]; rfl
  clear hZ hC hT lZ lT lC
  go_enter Try.func4, Try.ntmps4
  go_wp2_with (first
    | (go_at_call 8; (with_reducible refine (HPm.out _ _ _ v1.a).mono ?_); rintro e w2 ⟨B2, d2, rfl, o2, b2⟩; have v2 := v1.up b2; have q2 := Joins.ownsRow_le o2.out v1.below.size; have rr2 := rb_upM (rb_upM r1.out (two_below w1 _ _)) b2)
    | (go_at_call 8; (with_reducible refine (HP0.out _).mono ?_); rintro e w1 ⟨A1, c1, rfl, r1, b1⟩; have v1 := mvar_new b1)
    | (go_at_call 6; (with_reducible refine (HGy.out _ C 17 _ _ _ o2.out LC.out.symm (by omega) eC.out).mono ?_); rintro e w3 ⟨A3, c3, rfl, m3, b3, nw3⟩; have v3 := v2.up b3; have x3 := mvar_got v3.below m3; have o3 := own_kept q2 b3; have bb3 := (Below.refl w3.heap.size w3).alloc (Nat.le_refl _) (.cells #[.slice A3 1 c3, .int .i64 4, .int .i64 1, .int .i64 2] 29); have o3 := own_kept o3 bb3; have v3 := v3.up bb3; have rr3 := rb_upM (rb_upM rr2 b3) bb3; have n3 := own_rb (own_made (w3.alloc (.cells #[.slice A3 1 c3, .int .i64 4, .int .i64 1, .int .i64 2] 29)) [0] (by decide)); rw [show (w3.alloc (.cells #[.slice A3 1 c3, .int .i64 4, .int .i64 1, .int .i64 2] 29)).heap.size = w3.heap.size + 1 by simp] at n3)
    | (at_builtin; refine append_far rfl (.tmp 33) (.tmp 34) rfl rfl (own_kept o3 ((Below.refl _ _).alloc (Nat.le_refl _) _)) (v3.below.alloc v3.below.size _) (Nat.le_refl _) rfl n3 rfl (by omega) rfl ?_; intro A4 c4 w4 o4 b4 z4 f4 a4; have ob : ∀ k, (Value.slice B2 17 d2).ownBlock = some k → w1.heap.size + 2 ≤ k ∧ k < w2.heap.size := (fun k hk => by have h1 := (o2.out.lt k hk).1; have h2 := (q2.lt k hk).2; simp at h1; exact ⟨h1, h2⟩); have v4 := (v3.up ((Below.refl _ _).alloc (Nat.le_refl _) (.cells #[.int .u8 0] 5))).far b4 z4 f4 (fun e => by have := ob _ e; omega) (fun ad e e2 => by injection e with e; subst e; have h5 : w1.heap.size + 2 ≤ w1.heap.size := (ob _ e2).1; omega); have x4 := (x3.up ((Below.refl _ _).alloc (Nat.le_refl _) (.cells #[.int .u8 0] 5))).far b4 z4 f4 (fun e => by have := ob _ e; have := b3.size; omega) (fun ad e e2 => by have := nw3 ad e; have := ob _ e2; omega); have rr4 := rb_far12 (rb_upM rr3 ((Below.refl _ _).alloc (Nat.le_refl _) (.cells #[.int .u8 0] 5))) z4 f4 (fun ad e e2 => by obtain ⟨ad2, e3, hl, _⟩ := r1.out.2 (by rw [LZ.out]; omega); rw [e] at e3; injection e3 with e3; subst e3; have := ob _ e2; omega); have o4 : w4.ownsRow _ _ 1 (.slice A4 18 c4) 18 (cells (C ++ [0])) := o4)
    | (go_at_call 6; (with_reducible refine (HGn.out _ (C ++ [0]) 18 _ _ _ 12 o4 L18.out (by omega) eC2.out).mono ?_); rintro e w5 ⟨A5, c5, rfl, b5⟩; have v5 := v4.up b5; have x5 := x4.up b5; have rr5 := rb_upM rr4 b5; have u5 := (Below.refl w5.heap.size w5).alloc (Nat.le_refl _) (.cells #[.slice A5 0 c5, .int .i64 0, .int .i64 0, .int .i64 0] 29); have v5 := v5.up u5; have x5 := x5.up u5; have rr5 := rb_upM rr5 u5; have n5 : RB ((w5.alloc (.cells #[.slice A5 0 c5, .int .i64 0, .int .i64 0, .int .i64 0] 29)).alloc (.cells #[.int .u8 3, .int .u8 109, .int .u8 97, .int .u8 110, .int .u8 0, .int .u8 2] 5 (6, 7))) ((w5.alloc (.cells #[.slice A5 0 c5, .int .i64 0, .int .i64 0, .int .i64 0] 29)).alloc (.cells #[.int .u8 3, .int .u8 109, .int .u8 97, .int .u8 110, .int .u8 0, .int .u8 2] 5 (6, 7))).heap.size (some ⟨(w5.alloc (.cells #[.slice A5 0 c5, .int .i64 0, .int .i64 0, .int .i64 0] 29)).heap.size, 0, none⟩) awT := rb_newf (w5.alloc (.cells #[.slice A5 0 c5, .int .i64 0, .int .i64 0, .int .i64 0] 29)) awT (6, 7); rw [show (w5.alloc (.cells #[.slice A5 0 c5, .int .i64 0, .int .i64 0, .int .i64 0] 29)).heap.size = w5.heap.size + 1 by simp] at n5; have un5 := (Below.refl (w5.alloc (.cells #[.slice A5 0 c5, .int .i64 0, .int .i64 0, .int .i64 0] 29)).heap.size (w5.alloc (.cells #[.slice A5 0 c5, .int .i64 0, .int .i64 0, .int .i64 0] 29))).alloc (Nat.le_refl _) (.cells #[.int .u8 3, .int .u8 109, .int .u8 97, .int .u8 110, .int .u8 0, .int .u8 2] 5 (6, 7)); have v5 := v5.up un5; have x5 := x5.up un5; have rr5 := rb_upM rr5 un5)
    | (go_at_call 5; (with_reducible refine (HS.out _ awT 6 10 _ _ n5 rfl lT'.out (by omega)).mono ?_); rintro e w6 ⟨A6, c6, rfl, o6, b6⟩; have v6 := v5.up b6; have x6 := x5.up b6; have rr6 := rb_upM rr5 b6)
    | (go_at_call 6; (with_reducible refine (HGn.out _ (sealL awT) 10 _ _ _ 5 o6.out lT'.out.symm (by omega) eT.out).mono ?_); rintro e w7 ⟨A7, c7, rfl, b7⟩; have v7 := v6.up b7; have x7 := x6.up b7; have rr7 := rb_upM rr6 b7; have u7 := (Below.refl w7.heap.size w7).alloc (Nat.le_refl _) (.cells #[.slice A7 0 c7, .int .i64 0, .int .i64 0, .int .i64 0] 29); have v7 := v7.up u7; have x7 := x7.up u7; have rr7 := rb_upM rr7 u7; have m0 := v7.k0; have m1 := v7.k1; have m2 := v7.k2; have m3' := v7.k3)
    | (go_at_call 10; (with_reducible refine (HPa.out _ _ _ v7.a).mono ?_); rintro e w8 ⟨bp, op, dp, rfl, hp8, hl8, b8⟩; have v8 := v7.up b8; have x8 := x7.up b8; have rr8 := rb_upM rr7 b8))
  simp only [List.append]
  have S0 : SAw w w8.drew w1.heap.size w3.heap.size A1 A3 c3 Z bp op := ⟨v8.up (Below.drew (Below.refl _ _)), x8.up (Below.drew (Below.refl _ _)), rb_upM rr8 (Below.drew (Below.refl _ _)), hp8.out⟩
  refine region_T (fun W => SAw w W w1.heap.size w3.heap.size A1 A3 c3 Z bp op) (fun j => decide (72 ≤ j)) (by kernel_rfl) ?_
  refine any_asT rfl (listed' := #[false, false, false, false, false, false, false, false, false, false, false, false, false, false, false, false, false, false, false, false, false, false, false, false, false, false, false, false, false, false, false, false, false, false, false, false, false, false, false, false, false, false, false, false, false, false, false, false, false, false, false, false, false, false, false, false, false, false, false, false, false, false, false, false, false, false, false, false, false, false, false, false, false]) (by kernel_rfl) ?_
  generalize w8.drew = W0 at S0 ⊢
  refine take_d (i := 0) (.int .i64 0) 48 rfl (by kernel_rfl) (by kernel_rfl) (by kernel_rfl) (by kernel_rfl) rfl (by kernel_rfl) (by kernel_rfl) (fun W hW => by kernel_rfl) S0 (fun _ _ _ h => h) ?_
  simp only [Act.put, List.setIfInBounds_toArray, List.set_cons_zero, List.set_cons_succ]
  refine take_d (i := 1) (.bool true) 49 rfl (by kernel_rfl) (by kernel_rfl) (by kernel_rfl) (by kernel_rfl) rfl (by kernel_rfl) (by kernel_rfl) (fun W hW => by kernel_rfl) S0 (fun _ _ _ h => h) ?_
  simp only [Act.put, List.setIfInBounds_toArray, List.set_cons_zero, List.set_cons_succ]
  refine take_d (i := 2) (.bool true) 50 rfl (by kernel_rfl) (by kernel_rfl) (by kernel_rfl) (by kernel_rfl) rfl (by kernel_rfl) (by kernel_rfl) (fun W hW => by kernel_rfl) S0 (fun _ _ _ h => h) ?_
  simp only [Act.put, List.setIfInBounds_toArray, List.set_cons_zero, List.set_cons_succ]
  refine take_d (i := 3) (.slice A1 10 c1) 51 rfl (by kernel_rfl) (by kernel_rfl) (by kernel_rfl) (by kernel_rfl) rfl (by kernel_rfl) (by kernel_rfl) (fun W hW => by kernel_rfl) S0 (fun _ _ _ h => h) ?_
  simp only [Act.put, List.setIfInBounds_toArray, List.set_cons_zero, List.set_cons_succ]
  refine take_d (i := 4) (.string ⟨Z.toArray⟩) 52 rfl (by kernel_rfl) (by kernel_rfl) (by kernel_rfl) (by kernel_rfl) rfl (by kernel_rfl) (by kernel_rfl) (fun W hW => str_run (.tmp 51) A1 10 c1 Z (by kernel_rfl) (by kernel_rfl) (aw_str hW.2.2.1 10 c1 LZ.out.symm)) S0 (fun _ _ _ h => h) ?_
  simp only [Act.put, List.setIfInBounds_toArray, List.set_cons_zero, List.set_cons_succ]
  obtain ⟨WA, hWA⟩ : ∃ W, W = W0.alloc (.cells #[.int .u8 3, .int .u8 109, .int .u8 97, .int .u8 110, .int .u8 0, .int .u8 0] 5) := ⟨_, rfl⟩
  have bWA : Below W0.heap.size W0 WA := by rw [hWA]; exact (Below.refl _ _).alloc (Nat.le_refl _) _
  have SWA := S0.up bWA
  obtain ⟨WB, hWB⟩ : ∃ W, W = W0.alloc (.cells #[.int .u8 3, .int .u8 109, .int .u8 97, .int .u8 110, .int .u8 0, .int .u8 0] 5 (6, 7)) := ⟨_, rfl⟩
  have bWB : Below W0.heap.size W0 WB := by rw [hWB]; exact (Below.refl _ _).alloc (Nat.le_refl _) _
  have SWB := S0.up bWB
  refine any_comes (i := 5) (by kernel_rfl) (op_value_d (.slice (some ⟨W0.heap.size, 0, none⟩) 6 6) 53 rfl (by kernel_rfl) (by kernel_rfl) (w' := WA) (by rw [hWA]; kernel_rfl) ⟨SWA, ?_⟩)
  simp only [Act.put, List.setIfInBounds_toArray, List.set_cons_zero, List.set_cons_succ]
  refine any_comes (i := 6) (by kernel_rfl) (op_value_d (.slice (some ⟨W0.heap.size, 0, none⟩) 6 6) 54 rfl (by kernel_rfl) (by kernel_rfl) (w' := WB) (by rw [hWA, hWB]; exact fz_run (.tmp 53) W0 _ 6 6 _ (by kernel_rfl) (by kernel_rfl) rfl) ⟨SWB, ?_⟩)
  simp only [Act.put, List.setIfInBounds_toArray, List.set_cons_zero, List.set_cons_succ]
  have nB : RB WB WB.heap.size (some ⟨W0.heap.size, 0, none⟩) awZ := by rw [hWB]; exact rb_newf W0 awZ (6, 7)
  refine any_comes (i := 7) (by kernel_rfl) (op_enter 5 #[.slice (some ⟨W0.heap.size, 0, none⟩) 6 6] (some 55) rfl (by kernel_rfl) (by kernel_rfl) (by kernel_rfl) ((HS.out WB awZ 6 10 _ _ nB rfl lZ'.out (by omega)).mono ?_))
  rintro e w9 ⟨A9, c9, rfl, o9, b9⟩
  have Sw9 := SWB.up b9
  have sy := aw_str (rb_of_own o9.out lZ'.out.symm) 10 c9 lZ'.out.symm
  rw [← EZ.out] at sy
  have r9 : RB w9 w9.heap.size A9 Z := by rw [EZ.out]; exact rb_of_own o9.out lZ'.out.symm
  refine ⟨_, rfl, Sw9, ?_⟩
  simp only [Act.put, List.setIfInBounds_toArray, List.set_cons_zero, List.set_cons_succ]
  refine any_comes (i := 8) (by kernel_rfl) (op_value_d (.string ⟨Z.toArray⟩) 56 rfl (by kernel_rfl) (by kernel_rfl) (w' := w9) (str_run (.tmp 55) A9 10 c9 Z (by kernel_rfl) (by kernel_rfl) sy) ⟨Sw9, ?_⟩)
  simp only [Act.put, List.setIfInBounds_toArray, List.set_cons_zero, List.set_cons_succ]
  refine take_d (i := 9) (.bool true) 57 rfl (by kernel_rfl) (by kernel_rfl) (by kernel_rfl) (by kernel_rfl) rfl (by kernel_rfl) (by kernel_rfl) (fun W hW => seql_run (.tmp 52) (.tmp 56) ⟨Z.toArray⟩ (by kernel_rfl) (by kernel_rfl) (by kernel_rfl)) Sw9 (fun _ _ _ h => h) ?_
  simp only [Act.put, List.setIfInBounds_toArray, List.set_cons_zero, List.set_cons_succ]
  refine take_d (i := 10) (.bool true) 58 rfl (by kernel_rfl) (by kernel_rfl) (by kernel_rfl) (by kernel_rfl) rfl (by kernel_rfl) (by kernel_rfl) (fun W hW => by kernel_rfl) Sw9 (fun _ _ _ h => h) ?_
  simp only [Act.put, List.setIfInBounds_toArray, List.set_cons_zero, List.set_cons_succ]
  refine take_d (i := 11) (.bool true) 59 rfl (by kernel_rfl) (by kernel_rfl) (by kernel_rfl) (by kernel_rfl) rfl (by kernel_rfl) (by kernel_rfl) (fun W hW => by kernel_rfl) Sw9 (fun _ _ _ h => h) ?_
  simp only [Act.put, List.setIfInBounds_toArray, List.set_cons_zero, List.set_cons_succ]
  refine take_d (i := 12) (.int .i64 0) 60 rfl (by kernel_rfl) (by kernel_rfl) (by kernel_rfl) (by kernel_rfl) rfl (by kernel_rfl) (by kernel_rfl) (fun W hW => by kernel_rfl) Sw9 (fun _ _ _ h => h) ?_
  simp only [Act.put, List.setIfInBounds_toArray, List.set_cons_zero, List.set_cons_succ]
  refine take_d (i := 13) (.bool true) 61 rfl (by kernel_rfl) (by kernel_rfl) (by kernel_rfl) (by kernel_rfl) rfl (by kernel_rfl) (by kernel_rfl) (fun W hW => by kernel_rfl) Sw9 (fun _ _ _ h => h) ?_
  simp only [Act.put, List.setIfInBounds_toArray, List.set_cons_zero, List.set_cons_succ]
  refine take_d (i := 14) (.bool true) 62 rfl (by kernel_rfl) (by kernel_rfl) (by kernel_rfl) (by kernel_rfl) rfl (by kernel_rfl) (by kernel_rfl) (fun W hW => by kernel_rfl) Sw9 (fun _ _ _ h => h) ?_
  simp only [Act.put, List.setIfInBounds_toArray, List.set_cons_zero, List.set_cons_succ]
  refine take_d (i := 15) (.bool true) 63 rfl (by kernel_rfl) (by kernel_rfl) (by kernel_rfl) (by kernel_rfl) rfl (by kernel_rfl) (by kernel_rfl) (fun W hW => by kernel_rfl) Sw9 (fun _ _ _ h => h) ?_
  simp only [Act.put, List.setIfInBounds_toArray, List.set_cons_zero, List.set_cons_succ]
  refine take_d (i := 16) (.int .i64 0) 64 rfl (by kernel_rfl) (by kernel_rfl) (by kernel_rfl) (by kernel_rfl) rfl (by kernel_rfl) (by kernel_rfl) (fun W hW => by kernel_rfl) Sw9 (fun _ _ _ h => h) ?_
  simp only [Act.put, List.setIfInBounds_toArray, List.set_cons_zero, List.set_cons_succ]
  refine take_d (i := 17) (.bool true) 65 rfl (by kernel_rfl) (by kernel_rfl) (by kernel_rfl) (by kernel_rfl) rfl (by kernel_rfl) (by kernel_rfl) (fun W hW => by kernel_rfl) Sw9 (fun _ _ _ h => h) ?_
  simp only [Act.put, List.setIfInBounds_toArray, List.set_cons_zero, List.set_cons_succ]
  refine take_d (i := 18) (.bool true) 66 rfl (by kernel_rfl) (by kernel_rfl) (by kernel_rfl) (by kernel_rfl) rfl (by kernel_rfl) (by kernel_rfl) (fun W hW => by kernel_rfl) Sw9 (fun _ _ _ h => h) ?_
  simp only [Act.put, List.setIfInBounds_toArray, List.set_cons_zero, List.set_cons_succ]
  refine take_d (i := 19) (.bool true) 67 rfl (by kernel_rfl) (by kernel_rfl) (by kernel_rfl) (by kernel_rfl) rfl (by kernel_rfl) (by kernel_rfl) (fun W hW => by kernel_rfl) Sw9 (fun _ _ _ h => h) ?_
  simp only [Act.put, List.setIfInBounds_toArray, List.set_cons_zero, List.set_cons_succ]
  refine take_d (i := 20) (.agg #[.slice A3 1 c3, .int .i64 4, .int .i64 1, .int .i64 2]) 68 rfl (by kernel_rfl) (by kernel_rfl) (by kernel_rfl) (by kernel_rfl) rfl (by kernel_rfl) (by kernel_rfl) (fun W hW => load_run 29 (.tmp 6) w3.heap.size 0 [.slice A3 1 c3, .int .i64 4, .int .i64 1, .int .i64 2] _ (by kernel_rfl) (by kernel_rfl) hW.2.1.range Try.underlying29 rfl (by kernel_rfl) #[.slice A3 1 c3, .int .i64 4, .int .i64 1, .int .i64 2] rfl) Sw9 (fun _ _ _ h => h) ?_
  simp only [Act.put, List.setIfInBounds_toArray, List.set_cons_zero, List.set_cons_succ]
  refine take_d (i := 21) (.agg #[.slice (some ⟨w1.heap.size, 0, none⟩) 1 1, .int .i64 4, .int .i64 1, .int .i64 2]) 69 rfl (by kernel_rfl) (by kernel_rfl) (by kernel_rfl) (by kernel_rfl) rfl (by kernel_rfl) (by kernel_rfl) (fun W hW => load_run 29 (.tmp 3) (w1.heap.size + 1) 0 [.slice (some ⟨w1.heap.size, 0, none⟩) 1 1, .int .i64 4, .int .i64 1, .int .i64 2] _ (by kernel_rfl) (by kernel_rfl) hW.1.range Try.underlying29 rfl (by kernel_rfl) #[.slice (some ⟨w1.heap.size, 0, none⟩) 1 1, .int .i64 4, .int .i64 1, .int .i64 2] rfl) Sw9 (fun _ _ _ h => h) ?_
  simp only [Act.put, List.setIfInBounds_toArray, List.set_cons_zero, List.set_cons_succ]
  refine any_comes (i := 22) (by kernel_rfl) (op_enter 9 #[.agg #[.slice A3 1 c3, .int .i64 4, .int .i64 1, .int .i64 2], .agg #[.slice (some ⟨w1.heap.size, 0, none⟩) 1 1, .int .i64 4, .int .i64 1, .int .i64 2]] (some 70) rfl (by kernel_rfl) (by kernel_rfl) (by kernel_rfl) ((HSm.out w9 _ _ _ _ Sw9.2.1.a Sw9.1.a).mono ?_))
  rintro e wa ⟨rfl, ba⟩
  have Swa := Sw9.up ba
  refine ⟨_, rfl, Swa, ?_⟩
  simp only [Act.put, List.setIfInBounds_toArray, List.set_cons_zero, List.set_cons_succ]
  refine take_d (i := 23) (.bool true) 71 rfl (by kernel_rfl) (by kernel_rfl) (by kernel_rfl) (by kernel_rfl) rfl (by kernel_rfl) (by kernel_rfl) (fun W hW => by kernel_rfl) Swa (fun _ _ _ h => h) ?_
  simp only [Act.put, List.setIfInBounds_toArray, List.set_cons_zero, List.set_cons_succ]
  refine take_d (i := 24) (.bool true) 72 rfl (by kernel_rfl) (by kernel_rfl) (by kernel_rfl) (by kernel_rfl) rfl (by kernel_rfl) (by kernel_rfl) (fun W hW => by kernel_rfl) Swa (fun _ _ _ h => h) ?_
  simp only [Act.put, List.setIfInBounds_toArray, List.set_cons_zero, List.set_cons_succ]
  refine take_d (i := 25) (.int .i64 12) 73 rfl (by kernel_rfl) (by kernel_rfl) (by kernel_rfl) (by kernel_rfl) rfl (by kernel_rfl) (by kernel_rfl) (fun W hW => by kernel_rfl) Swa (fun _ _ _ h => h) ?_
  simp only [Act.put, List.setIfInBounds_toArray, List.set_cons_zero, List.set_cons_succ]
  refine take_d (i := 26) (.bool true) 74 rfl (by kernel_rfl) (by kernel_rfl) (by kernel_rfl) (by kernel_rfl) rfl (by kernel_rfl) (by kernel_rfl) (fun W hW => by kernel_rfl) Swa (fun _ _ _ h => h) ?_
  simp only [Act.put, List.setIfInBounds_toArray, List.set_cons_zero, List.set_cons_succ]
  refine take_d (i := 27) (.bool true) 75 rfl (by kernel_rfl) (by kernel_rfl) (by kernel_rfl) (by kernel_rfl) rfl (by kernel_rfl) (by kernel_rfl) (fun W hW => by kernel_rfl) Swa (fun _ _ _ h => h) ?_
  simp only [Act.put, List.setIfInBounds_toArray, List.set_cons_zero, List.set_cons_succ]
  refine take_d (i := 28) (.bool true) 76 rfl (by kernel_rfl) (by kernel_rfl) (by kernel_rfl) (by kernel_rfl) rfl (by kernel_rfl) (by kernel_rfl) (fun W hW => by kernel_rfl) Swa (fun _ _ _ h => h) ?_
  simp only [Act.put, List.setIfInBounds_toArray, List.set_cons_zero, List.set_cons_succ]
  refine take_d (i := 29) (.int .i64 5) 77 rfl (by kernel_rfl) (by kernel_rfl) (by kernel_rfl) (by kernel_rfl) rfl (by kernel_rfl) (by kernel_rfl) (fun W hW => by kernel_rfl) Swa (fun _ _ _ h => h) ?_
  simp only [Act.put, List.setIfInBounds_toArray, List.set_cons_zero, List.set_cons_succ]
  refine take_d (i := 30) (.bool true) 78 rfl (by kernel_rfl) (by kernel_rfl) (by kernel_rfl) (by kernel_rfl) rfl (by kernel_rfl) (by kernel_rfl) (fun W hW => by kernel_rfl) Swa (fun _ _ _ h => h) ?_
  simp only [Act.put, List.setIfInBounds_toArray, List.set_cons_zero, List.set_cons_succ]
  refine take_d (i := 31) (.bool true) 79 rfl (by kernel_rfl) (by kernel_rfl) (by kernel_rfl) (by kernel_rfl) rfl (by kernel_rfl) (by kernel_rfl) (fun W hW => by kernel_rfl) Swa (fun _ _ _ h => h) ?_
  simp only [Act.put, List.setIfInBounds_toArray, List.set_cons_zero, List.set_cons_succ]
  refine take_d (i := 32) (.bool true) 80 rfl (by kernel_rfl) (by kernel_rfl) (by kernel_rfl) (by kernel_rfl) rfl (by kernel_rfl) (by kernel_rfl) (fun W hW => by kernel_rfl) Swa (fun _ _ _ h => h) ?_
  simp only [Act.put, List.setIfInBounds_toArray, List.set_cons_zero, List.set_cons_succ]
  refine take_d (i := 33) (.slice (some ⟨bp, op, none⟩) 2 dp) 81 rfl (by kernel_rfl) (by kernel_rfl) (by kernel_rfl) (by kernel_rfl) rfl (by kernel_rfl) (by kernel_rfl) (fun W hW => by kernel_rfl) Swa (fun _ _ _ h => h) ?_
  simp only [Act.put, List.setIfInBounds_toArray, List.set_cons_zero, List.set_cons_succ]
  refine take_d (i := 34) (.int .i64 2) 82 rfl (by kernel_rfl) (by kernel_rfl) (by kernel_rfl) (by kernel_rfl) rfl (by kernel_rfl) (by kernel_rfl) (fun W hW => by kernel_rfl) Swa (fun _ _ _ h => h) ?_
  simp only [Act.put, List.setIfInBounds_toArray, List.set_cons_zero, List.set_cons_succ]
  refine take_d (i := 35) (.bool true) 83 rfl (by kernel_rfl) (by kernel_rfl) (by kernel_rfl) (by kernel_rfl) rfl (by kernel_rfl) (by kernel_rfl) (fun W hW => by kernel_rfl) Swa (fun _ _ _ h => h) ?_
  simp only [Act.put, List.setIfInBounds_toArray, List.set_cons_zero, List.set_cons_succ]
  refine take_d (i := 36) (.bool true) 84 rfl (by kernel_rfl) (by kernel_rfl) (by kernel_rfl) (by kernel_rfl) rfl (by kernel_rfl) (by kernel_rfl) (fun W hW => by kernel_rfl) Swa (fun _ _ _ h => h) ?_
  simp only [Act.put, List.setIfInBounds_toArray, List.set_cons_zero, List.set_cons_succ]
  refine take_d (i := 37) (.bool true) 85 rfl (by kernel_rfl) (by kernel_rfl) (by kernel_rfl) (by kernel_rfl) rfl (by kernel_rfl) (by kernel_rfl) (fun W hW => by kernel_rfl) Swa (fun _ _ _ h => h) ?_
  simp only [Act.put, List.setIfInBounds_toArray, List.set_cons_zero, List.set_cons_succ]
  refine take_d (i := 38) (.slice (some ⟨bp, op, none⟩) 2 dp) 86 rfl (by kernel_rfl) (by kernel_rfl) (by kernel_rfl) (by kernel_rfl) rfl (by kernel_rfl) (by kernel_rfl) (fun W hW => by kernel_rfl) Swa (fun _ _ _ h => h) ?_
  simp only [Act.put, List.setIfInBounds_toArray, List.set_cons_zero, List.set_cons_succ]
  refine take_d (i := 39) (.pointer (some ⟨bp, op + 3, none⟩)) 87 rfl (by kernel_rfl) (by kernel_rfl) (by kernel_rfl) (by kernel_rfl) rfl (by kernel_rfl) (by kernel_rfl) (fun W hW => pidx_run (.tmp 86) (.const (.int .i64 1)) bp op 2 dp 1 (by kernel_rfl) (by kernel_rfl) (by kernel_rfl) (by omega)) Swa (fun _ _ _ h => h) ?_
  simp only [Act.put, List.setIfInBounds_toArray, List.set_cons_zero, List.set_cons_succ]
  refine take_d (i := 40) (.pointer (some ⟨bp, op + 3, none⟩)) 88 rfl (by kernel_rfl) (by kernel_rfl) (by kernel_rfl) (by kernel_rfl) rfl (by kernel_rfl) (by kernel_rfl) (fun W hW => pfld_run (.tmp 87) bp (op + 3) (by kernel_rfl) (by kernel_rfl)) Swa (fun _ _ _ h => h) ?_
  simp only [Act.put, List.setIfInBounds_toArray, List.set_cons_zero, List.set_cons_succ]
  refine take_d (i := 41) (.int .i64 4) 89 rfl (by kernel_rfl) (by kernel_rfl) (by kernel_rfl) (by kernel_rfl) rfl (by kernel_rfl) (by kernel_rfl) (fun W hW => cell_run 3 (.tmp 88) ⟨bp, op + 3, none⟩ (.int .i64 4) _ (by kernel_rfl) (by kernel_rfl) hW.2.2.2 Try.underlying3 rfl (by kernel_rfl)) Swa (fun _ _ _ h => h) ?_
  simp only [Act.put, List.setIfInBounds_toArray, List.set_cons_zero, List.set_cons_succ]
  refine take_d (i := 42) (.bool true) 90 rfl (by kernel_rfl) (by kernel_rfl) (by kernel_rfl) (by kernel_rfl) rfl (by kernel_rfl) (by kernel_rfl) (fun W hW => by kernel_rfl) Swa (fun _ _ _ h => h) ?_
  simp only [Act.put, List.setIfInBounds_toArray, List.set_cons_zero, List.set_cons_succ]
  refine take_d (i := 43) (.bool true) 91 rfl (by kernel_rfl) (by kernel_rfl) (by kernel_rfl) (by kernel_rfl) rfl (by kernel_rfl) (by kernel_rfl) (fun W hW => by kernel_rfl) Swa (fun _ _ _ h => h) ?_
  simp only [Act.put, List.setIfInBounds_toArray, List.set_cons_zero, List.set_cons_succ]
  refine take_d (i := 44) (.bool true) 92 rfl (by kernel_rfl) (by kernel_rfl) (by kernel_rfl) (by kernel_rfl) rfl (by kernel_rfl) (by kernel_rfl) (fun W hW => by kernel_rfl) Swa (fun _ _ _ h => h) ?_
  simp only [Act.put, List.setIfInBounds_toArray, List.set_cons_zero, List.set_cons_succ]
  obtain ⟨WC, hWC⟩ : ∃ W, W = wa.alloc (.cells (ptCells (List.replicate 9 Pt.z)).toArray 27) := ⟨_, rfl⟩
  have bWC : Below wa.heap.size wa WC := by rw [hWC]; exact (Below.refl _ _).alloc (Nat.le_refl _) _
  have SWC := Swa.up bWC
  refine any_comes (i := 45) (by kernel_rfl) (op_value_d (.slice (some ⟨wa.heap.size, 0, none⟩) 9 9) 93 rfl (by kernel_rfl) (by kernel_rfl) (w' := WC) (by rw [hWC]; kernel_rfl) ⟨SWC, ?_⟩)
  simp only [Act.put, List.setIfInBounds_toArray, List.set_cons_zero, List.set_cons_succ]
  refine take_d (i := 46) (.agg #[.slice (some ⟨wa.heap.size, 0, none⟩) 9 9, .int .i64 0, .int .i64 0, .int .i64 0]) 94 rfl (by kernel_rfl) (by kernel_rfl) (by kernel_rfl) (by kernel_rfl) rfl (by kernel_rfl) (by kernel_rfl) (fun W hW => by kernel_rfl) SWC (fun _ _ _ h => h) ?_
  simp only [Act.put, List.setIfInBounds_toArray, List.set_cons_zero, List.set_cons_succ]
  refine any_comes (i := 47) (by kernel_rfl) (op_enter 11 #[.agg #[.slice (some ⟨wa.heap.size, 0, none⟩) 9 9, .int .i64 0, .int .i64 0, .int .i64 0]] (some 95) rfl (by kernel_rfl) (by kernel_rfl) (by kernel_rfl) ((HCk.out WC (List.replicate 9 Pt.z) 9 wa.heap.size 9 4 (by rw [hWC]; exact Blk.new _ _ _) rfl (by omega) (by decide)).mono ?_))
  rintro e wb ⟨rfl, bb⟩
  have Swb := SWC.up bb
  refine ⟨_, rfl, Swb, ?_⟩
  simp only [Act.put, List.setIfInBounds_toArray, List.set_cons_zero, List.set_cons_succ]
  refine take_d (i := 48) (.bool true) 96 rfl (by kernel_rfl) (by kernel_rfl) (by kernel_rfl) (by kernel_rfl) rfl (by kernel_rfl) (by kernel_rfl) (fun W hW => by kernel_rfl) Swb (fun _ _ _ h => h) ?_
  simp only [Act.put, List.setIfInBounds_toArray, List.set_cons_zero, List.set_cons_succ]
  refine take_d (i := 49) (.bool true) 97 rfl (by kernel_rfl) (by kernel_rfl) (by kernel_rfl) (by kernel_rfl) rfl (by kernel_rfl) (by kernel_rfl) (fun W hW => by kernel_rfl) Swb (fun _ _ _ h => h) ?_
  simp only [Act.put, List.setIfInBounds_toArray, List.set_cons_zero, List.set_cons_succ]
  refine take_d (i := 50) (.bool true) 98 rfl (by kernel_rfl) (by kernel_rfl) (by kernel_rfl) (by kernel_rfl) rfl (by kernel_rfl) (by kernel_rfl) (fun W hW => by kernel_rfl) Swb (fun _ _ _ h => h) ?_
  simp only [Act.put, List.setIfInBounds_toArray, List.set_cons_zero, List.set_cons_succ]
  refine take_d (i := 51) (.agg #[.int .i64 0, .int .i64 0, .int .i64 0]) 99 rfl (by kernel_rfl) (by kernel_rfl) (by kernel_rfl) (by kernel_rfl) rfl (by kernel_rfl) (by kernel_rfl) (fun W hW => by kernel_rfl) Swb (fun _ _ _ h => h) ?_
  simp only [Act.put, List.setIfInBounds_toArray, List.set_cons_zero, List.set_cons_succ]
  obtain ⟨WD, hWD⟩ : ∃ W, W = wb.alloc (.cells (ptCells [Pt.z]).toArray 27) := ⟨_, rfl⟩
  have bWD : Below wb.heap.size wb WD := by rw [hWD]; exact (Below.refl _ _).alloc (Nat.le_refl _) _
  have SWD := Swb.up bWD
  refine any_comes (i := 52) (by kernel_rfl) (op_value_d (.slice (some ⟨wb.heap.size, 0, none⟩) 1 1) 100 rfl (by kernel_rfl) (by kernel_rfl) (w' := WD) (by rw [hWD]; kernel_rfl) ⟨SWD, ?_⟩)
  simp only [Act.put, List.setIfInBounds_toArray, List.set_cons_zero, List.set_cons_succ]
  refine take_d (i := 53) (.agg #[.slice (some ⟨wb.heap.size, 0, none⟩) 1 1, .int .i64 0, .int .i64 0, .int .i64 0]) 101 rfl (by kernel_rfl) (by kernel_rfl) (by kernel_rfl) (by kernel_rfl) rfl (by kernel_rfl) (by kernel_rfl) (fun W hW => by kernel_rfl) SWD (fun _ _ _ h => h) ?_
  simp only [Act.put, List.setIfInBounds_toArray, List.set_cons_zero, List.set_cons_succ]
  refine any_comes (i := 54) (by kernel_rfl) (op_enter 11 #[.agg #[.slice (some ⟨wb.heap.size, 0, none⟩) 1 1, .int .i64 0, .int .i64 0, .int .i64 0]] (some 102) rfl (by kernel_rfl) (by kernel_rfl) (by kernel_rfl) ((HCk.out WD [Pt.z] 1 wb.heap.size 1 1 (by rw [hWD]; exact Blk.new _ _ _) rfl (by omega) (by decide)).mono ?_))
  rintro e wc ⟨rfl, bc⟩
  have Swc := SWD.up bc
  refine ⟨_, rfl, Swc, ?_⟩
  simp only [Act.put, List.setIfInBounds_toArray, List.set_cons_zero, List.set_cons_succ]
  refine take_d (i := 55) (.bool true) 103 rfl (by kernel_rfl) (by kernel_rfl) (by kernel_rfl) (by kernel_rfl) rfl (by kernel_rfl) (by kernel_rfl) (fun W hW => by kernel_rfl) Swc (fun _ _ _ h => h) ?_
  simp only [Act.put, List.setIfInBounds_toArray, List.set_cons_zero, List.set_cons_succ]
  refine take_d (i := 56) (.bool true) 104 rfl (by kernel_rfl) (by kernel_rfl) (by kernel_rfl) (by kernel_rfl) rfl (by kernel_rfl) (by kernel_rfl) (fun W hW => by kernel_rfl) Swc (fun _ _ _ h => h) ?_
  simp only [Act.put, List.setIfInBounds_toArray, List.set_cons_zero, List.set_cons_succ]
  refine take_d (i := 57) (.bool true) 105 rfl (by kernel_rfl) (by kernel_rfl) (by kernel_rfl) (by kernel_rfl) rfl (by kernel_rfl) (by kernel_rfl) (fun W hW => by kernel_rfl) Swc (fun _ _ _ h => h) ?_
  simp only [Act.put, List.setIfInBounds_toArray, List.set_cons_zero, List.set_cons_succ]
  refine take_d (i := 58) (.pointer (some ⟨w1.heap.size + 1, 1, none⟩)) 106 rfl (by kernel_rfl) (by kernel_rfl) (by kernel_rfl) (by kernel_rfl) rfl (by kernel_rfl) (by kernel_rfl) (fun W hW => by kernel_rfl) Swc (fun _ _ _ h => h) ?_
  simp only [Act.put, List.setIfInBounds_toArray, List.set_cons_zero, List.set_cons_succ]
  refine take_d (i := 59) (.agg #[.int .i64 4, .int .i64 1, .int .i64 2]) 107 rfl (by kernel_rfl) (by kernel_rfl) (by kernel_rfl) (by kernel_rfl) rfl (by kernel_rfl) (by kernel_rfl) (fun W hW => load_run 27 (.tmp 106) (w1.heap.size + 1) 1 [.int .i64 4, .int .i64 1, .int .i64 2] _ (by kernel_rfl) (by kernel_rfl) hW.1.snap Try.underlying27 rfl (by kernel_rfl) #[.int .i64 4, .int .i64 1, .int .i64 2] rfl) Swc (fun _ _ _ h => h) ?_
  simp only [Act.put, List.setIfInBounds_toArray, List.set_cons_zero, List.set_cons_succ]
  refine take_d (i := 60) (.pointer (some ⟨w1.heap.size + 1, 1, none⟩)) 108 rfl (by kernel_rfl) (by kernel_rfl) (by kernel_rfl) (by kernel_rfl) rfl (by kernel_rfl) (by kernel_rfl) (fun W hW => by kernel_rfl) Swc (fun _ _ _ h => h) ?_
  simp only [Act.put, List.setIfInBounds_toArray, List.set_cons_zero, List.set_cons_succ]
  refine take_d (i := 61) (.agg #[.int .i64 4, .int .i64 1, .int .i64 2]) 109 rfl (by kernel_rfl) (by kernel_rfl) (by kernel_rfl) (by kernel_rfl) rfl (by kernel_rfl) (by kernel_rfl) (fun W hW => load_run 27 (.tmp 108) (w1.heap.size + 1) 1 [.int .i64 4, .int .i64 1, .int .i64 2] _ (by kernel_rfl) (by kernel_rfl) hW.1.snap Try.underlying27 rfl (by kernel_rfl) #[.int .i64 4, .int .i64 1, .int .i64 2] rfl) Swc (fun _ _ _ h => h) ?_
  simp only [Act.put, List.setIfInBounds_toArray, List.set_cons_zero, List.set_cons_succ]
  obtain ⟨WE, hWE⟩ : ∃ W, W = wc.alloc (.cells (ptCells [⟨4, 1, 2⟩, ⟨4, 1, 2⟩]).toArray 27) := ⟨_, rfl⟩
  have bWE : Below wc.heap.size wc WE := by rw [hWE]; exact (Below.refl _ _).alloc (Nat.le_refl _) _
  have SWE := Swc.up bWE
  refine any_comes (i := 62) (by kernel_rfl) (op_value_d (.slice (some ⟨wc.heap.size, 0, none⟩) 2 2) 110 rfl (by kernel_rfl) (by kernel_rfl) (w' := WE) (by rw [hWE]; kernel_rfl) ⟨SWE, ?_⟩)
  simp only [Act.put, List.setIfInBounds_toArray, List.set_cons_zero, List.set_cons_succ]
  refine take_d (i := 63) (.agg #[.slice (some ⟨wc.heap.size, 0, none⟩) 2 2, .int .i64 0, .int .i64 0, .int .i64 0]) 111 rfl (by kernel_rfl) (by kernel_rfl) (by kernel_rfl) (by kernel_rfl) rfl (by kernel_rfl) (by kernel_rfl) (fun W hW => by kernel_rfl) SWE (fun _ _ _ h => h) ?_
  simp only [Act.put, List.setIfInBounds_toArray, List.set_cons_zero, List.set_cons_succ]
  refine any_comes (i := 64) (by kernel_rfl) (op_enter 11 #[.agg #[.slice (some ⟨wc.heap.size, 0, none⟩) 2 2, .int .i64 0, .int .i64 0, .int .i64 0]] (some 112) rfl (by kernel_rfl) (by kernel_rfl) (by kernel_rfl) ((HCk.out WE [⟨4, 1, 2⟩, ⟨4, 1, 2⟩] 2 wc.heap.size 2 7 (by rw [hWE]; exact Blk.new _ _ _) rfl (by omega) (by decide)).mono ?_))
  rintro e wd ⟨rfl, bd⟩
  have Swd := SWE.up bd
  refine ⟨_, rfl, Swd, ?_⟩
  simp only [Act.put, List.setIfInBounds_toArray, List.set_cons_zero, List.set_cons_succ]
  refine take_d (i := 65) (.bool true) 113 rfl (by kernel_rfl) (by kernel_rfl) (by kernel_rfl) (by kernel_rfl) rfl (by kernel_rfl) (by kernel_rfl) (fun W hW => by kernel_rfl) Swd (fun _ _ _ h => h) ?_
  simp only [Act.put, List.setIfInBounds_toArray, List.set_cons_zero, List.set_cons_succ]
  refine take_d (i := 66) (.bool true) 114 rfl (by kernel_rfl) (by kernel_rfl) (by kernel_rfl) (by kernel_rfl) rfl (by kernel_rfl) (by kernel_rfl) (fun W hW => by kernel_rfl) Swd (fun _ _ _ h => h) ?_
  simp only [Act.put, List.setIfInBounds_toArray, List.set_cons_zero, List.set_cons_succ]
  refine take_d (i := 67) (.bool true) 115 rfl (by kernel_rfl) (by kernel_rfl) (by kernel_rfl) (by kernel_rfl) rfl (by kernel_rfl) (by kernel_rfl) (fun W hW => by kernel_rfl) Swd (fun _ _ _ h => h) ?_
  simp only [Act.put, List.setIfInBounds_toArray, List.set_cons_zero, List.set_cons_succ]
  refine take_d (i := 68) (.agg #[.slice (some ⟨w1.heap.size, 0, none⟩) 1 1, .int .i64 4, .int .i64 1, .int .i64 2]) 116 rfl (by kernel_rfl) (by kernel_rfl) (by kernel_rfl) (by kernel_rfl) rfl (by kernel_rfl) (by kernel_rfl) (fun W hW => load_run 29 (.tmp 3) (w1.heap.size + 1) 0 [.slice (some ⟨w1.heap.size, 0, none⟩) 1 1, .int .i64 4, .int .i64 1, .int .i64 2] _ (by kernel_rfl) (by kernel_rfl) hW.1.range Try.underlying29 rfl (by kernel_rfl) #[.slice (some ⟨w1.heap.size, 0, none⟩) 1 1, .int .i64 4, .int .i64 1, .int .i64 2] rfl) Swd (fun _ _ _ h => h) ?_
  simp only [Act.put, List.setIfInBounds_toArray, List.set_cons_zero, List.set_cons_succ]
  refine take_d (i := 69) (.agg #[.slice A3 1 c3, .int .i64 4, .int .i64 1, .int .i64 2]) 117 rfl (by kernel_rfl) (by kernel_rfl) (by kernel_rfl) (by kernel_rfl) rfl (by kernel_rfl) (by kernel_rfl) (fun W hW => load_run 29 (.tmp 6) w3.heap.size 0 [.slice A3 1 c3, .int .i64 4, .int .i64 1, .int .i64 2] _ (by kernel_rfl) (by kernel_rfl) hW.2.1.range Try.underlying29 rfl (by kernel_rfl) #[.slice A3 1 c3, .int .i64 4, .int .i64 1, .int .i64 2] rfl) Swd (fun _ _ _ h => h) ?_
  simp only [Act.put, List.setIfInBounds_toArray, List.set_cons_zero, List.set_cons_succ]
  refine any_comes (i := 70) (by kernel_rfl) (op_enter 12 #[.agg #[.slice (some ⟨w1.heap.size, 0, none⟩) 1 1, .int .i64 4, .int .i64 1, .int .i64 2], .agg #[.slice A3 1 c3, .int .i64 4, .int .i64 1, .int .i64 2]] (some 118) rfl (by kernel_rfl) (by kernel_rfl) (by kernel_rfl) ((HSp.out wd _ _ _ _ Swd.1.a Swd.2.1.a).mono ?_))
  rintro e we ⟨rfl, be⟩
  have Swe := Swd.up be
  refine ⟨_, rfl, Swe, ?_⟩
  simp only [Act.put, List.setIfInBounds_toArray, List.set_cons_zero, List.set_cons_succ]
  refine take_d (i := 71) (.bool true) 119 rfl (by kernel_rfl) (by kernel_rfl) (by kernel_rfl) (by kernel_rfl) rfl (by kernel_rfl) (by kernel_rfl) (fun W hW => by kernel_rfl) Swe (fun _ _ _ h => h) ?_
  simp only [Act.put, List.setIfInBounds_toArray, List.set_cons_zero, List.set_cons_succ]
  refine any_left (by kernel_rfl) ?_
  refine wpAny_tail 72 (by kernel_rfl) (by kernel_rfl) ?_
  simp only [List.drop_succ_cons, List.drop_zero]
  go_wp2
  go_ret
  exact ⟨rfl, Swe.1.below⟩
end Go.Proofs.Ytnmcohdlogepdaa
