/- Lemmas under the proofs of this place: CellPJoin. No statement is proved here. -/
import Derived.Test.YtonnkibcnhjelaaGreatDoorBu16
import Derived.Test.YtonnkibcnhjelaaGreatDoorBu19
import Derived.Test.YtonnkibcnhjelaaGreatDoorBu13
import Derived.Test.YtonnkibcnhjelaaGreatDoorBu11
set_option linter.unusedVariables false
set_option linter.unusedSimpArgs false
namespace Go.Proofs.YtonnkibcnhjelaaGreatDoor
open Go.RowKit
section
variable {x : Ce} {r : List Ce}
theorem cjoin_good (h : ∀ i (hi : i < (x :: r).length), joinOk x.owner (x :: r).length i (x :: r)[i] = true) : joinC (x :: r) = some ((x :: r).flatMap (·.data)) := by
  unfold joinC
  simp only
  rw [if_pos]
  rw [List.all_eq_true]
  intro i hi
  rw [List.mem_range] at hi
  have hl : i < (x :: r).length := by simpa using hi
  have e : (x :: r).getD i .zero = (x :: r)[i] := by rw [List.getD_eq_getElem?_getD, List.getElem?_eq_getElem hl]; rfl
  rw [e]
  exact h i hl
theorem cjoin_odd {i : Nat} (hi : i < (x :: r).length) (h : joinOk x.owner (x :: r).length i (x :: r)[i] = false) : joinC (x :: r) = none := by
  unfold joinC
  simp only
  rw [if_neg]
  intro hh
  have h2 := List.all_eq_true.1 hh i (List.mem_range.2 (by simpa using hi))
  have e : (x :: r).getD i .zero = (x :: r)[i] := by rw [List.getD_eq_getElem?_getD, List.getElem?_eq_getElem hi]; rfl
  rw [e] at h2
  have h3 : joinOk x.owner (x :: r).length i (x :: r)[i] = true := h2
  rw [h] at h3
  cases h3
end
theorem joinOk_fits (o : Int) (n i : Nat) (s : Ce) (hm : s.may = true) : joinOk o n i s = (decide (s.owner = o) && (decide (s.number = (i : Int)) && s.fits (decide (i + 1 = n)))) := by
  unfold joinOk Ce.fits
  rw [hm, Bool.true_and, Bool.and_assoc]
  by_cases h : i + 1 = n
  · rw [if_pos h, decide_eq_true h, if_pos rfl]
  · rw [if_neg h, decide_eq_false h, if_neg (by decide)]
theorem cidx_first {o : Oper} {a : Act} {w : World} (b off n c : Nat) (x y : Operand) (ho : o.op = .indexAddr 58 x y) (hx : a.eval x = .slice (some ⟨b, off, none⟩) n c) (hy : a.eval y = .int .i64 0) (hi : 0 < n) :
    (execOp a.eval o).run Tryz.prog w = .ok (.value (.pointer (some ⟨b, off, none⟩))) w := by
  have h2 : (0 : Int) < (n : Int) := by omega
  have hu : (underlying 58).run Tryz.prog w = .ok (.slice 64) w := by kernel_rfl
  have hs : (sizeOf 64).run Tryz.prog w = .ok 4 w := by kernel_rfl
  unfold execOp
  simp [ho, hx, hy, Instr.indexAt, asIntOf, hu, hs, hi, h2, Addr.add]
theorem guard_int (op : BinOp) (t : TypeId) (x y : Operand) (k k' : IntKind) (p q : Int) (w : World) : (eqGuard op t x y (.int k p) (.int k' q)).run Tryz.prog w = .ok () w := by
  unfold eqGuard
  cases op <;> rfl
theorem bin_run {o : Oper} {a : Act} {w : World} (op : BinOp) (x y : Operand) (p q : Int) (v : Value) (ho : o.op = .binOp op 3 x y 3) (hx : a.eval x = .int .i64 p) (hy : a.eval y = .int .i64 q) (hv : (binOp op 3 (.int .i64 p) (.int .i64 q)).run Tryz.prog w = .ok v w) :
    (execOp a.eval o).run Tryz.prog w = .ok (.value v) w := by
  unfold execOp
  simp only [ho, hx, hy, Sem.run_bind, guard_int, Result.andThen_ok, hv, Sem.run_pure]
theorem neq_run {o : Oper} {a : Act} {w : World} (x y : Operand) (p q : Int) (ho : o.op = .binOp .neq 3 x y 3) (hx : a.eval x = .int .i64 p) (hy : a.eval y = .int .i64 q) (v : Bool) (hv : (p != q) = v) :
    (execOp a.eval o).run Tryz.prog w = .ok (.value (.bool v)) w := by
  subst hv
  exact bin_run .neq x y p q _ ho hx hy (by simp [go_sem])
theorem eql_run {o : Oper} {a : Act} {w : World} (x y : Operand) (p q : Int) (ho : o.op = .binOp .eql 3 x y 3) (hx : a.eval x = .int .i64 p) (hy : a.eval y = .int .i64 q) (v : Bool) (hv : (p == q) = v) :
    (execOp a.eval o).run Tryz.prog w = .ok (.value (.bool v)) w := by
  subst hv
  exact bin_run .eql x y p q _ ho hx hy (by simp [go_sem])
theorem sub_run {o : Oper} {a : Act} {w : World} (x y : Operand) (p q z : Int) (ho : o.op = .binOp .sub 3 x y 3) (hx : a.eval x = .int .i64 p) (hy : a.eval y = .int .i64 q) (hz : IntKind.i64.wrap (p - q) = z) :
    (execOp a.eval o).run Tryz.prog w = .ok (.value (.int .i64 z)) w := by
  subst hz
  exact bin_run .sub x y p q _ ho hx hy (by simp [go_sem])
theorem range4 {w : World} {b off : Nat} {v0 v1 v2 v3 : Value} (h0 : w.cell? ⟨b, off, none⟩ = some v0) (h1 : w.cell? ⟨b, off + 1, none⟩ = some v1) (h2 : w.cell? ⟨b, off + 2, none⟩ = some v2) (h3 : w.cell? ⟨b, off + 3, none⟩ = some v3) : w.rangeAt b off [v0, v1, v2, v3] := by
  intro j v hj
  match j with
  | 0 => simp at hj; rw [← hj]; exact h0
  | 1 => simp at hj; rw [← hj]; exact h1
  | 2 => simp at hj; rw [← hj]; exact h2
  | 3 => simp at hj; rw [← hj]; exact h3
  | j + 4 => simp at hj
theorem CL.at_ {w : World} {B b off : Nat} {l : List Ce} (h : CL w B (some ⟨b, off, none⟩) l) (i : Nat) (hi : i < l.length) : b < B ∧ ∃ dA dc, RB w B dA l[i].data ∧
    w.cell? ⟨b, off + i * 4, none⟩ = some (.int .i64 l[i].owner) ∧ w.cell? ⟨b, off + i * 4 + 1, none⟩ = some (.int .i64 l[i].number) ∧ w.cell? ⟨b, off + i * 4 + 2, none⟩ = some (.int .i64 l[i].next) ∧
    w.cell? ⟨b, off + i * 4 + 3, none⟩ = some (.slice dA l[i].data.length dc) := by
  obtain ⟨b', off', e, hb, hc⟩ := h (by omega)
  injection e with e
  injection e with e1 e2
  subst e1 e2
  exact ⟨hb, hc i hi⟩
def GivesJN (r : Option (List UInt8)) (w : World) (e : Ending) (w' : World) : Prop :=
  ∃ A c, e = .returned (.tuple #[.slice A (r.getD []).length c, .bool r.isSome]) ∧ RB w' w'.heap.size A (r.getD []) ∧ (∀ ad, A = some ad → w.heap.size ≤ ad.block) ∧ Below w.heap.size w w'
theorem own_new9 {w : World} {base n m c sz : Nat} {t : TypeId} {A : Option Addr} {xs : List Value} (h : w.ownsRow base t sz (.slice A n c) m xs) : ∀ ad, A = some ad → base ≤ ad.block := by
  intro ad e
  rcases h.2 with ⟨h1, _⟩ | ⟨k, cap, cur, he, h2, _⟩
  · injection h1 with h1; rw [h1] at e; cases e
  · injection he with h1; rw [h1] at e; cases e; exact h2
set_option maxRecDepth 100000 in
set_option maxHeartbeats 2000000 in
theorem cjoin_nil (A : Option Addr) (c : Nat) (w : World) : Calls Tryz.prog 79 #[.slice A 0 c] w (GivesJN (joinC []) w) := by
  go_enter Tryz.func79, Tryz.ntmps79
  go_wp2
  go_loopw [4, 5, 6, 9] (fun v _ _ x wr => v = .slice none 0 0 ∧ x = .int .i64 0 ∧ wr = w) (fun _ _ _ _ _ => 0)
  case atStart => exact ⟨rfl, rfl, rfl⟩
  case round =>
    obtain ⟨rfl, rfl, rfl⟩ := hrel
    go_wp2
    go_ret2
    exact ⟨none, 0, rfl, RB.none_ _ _, (fun _ e => by cases e), Below.refl _ _⟩
set_option maxRecDepth 100000 in
set_option maxHeartbeats 8000000 in
theorem cjoin_some (l : List Ce) (n b off : Nat) (c : Nat) (w : World) (hn : n = l.length) (h0 : 0 < n) (hS : CL w w.heap.size (some ⟨b, off, none⟩) l) (hl : n ≤ 2000) (hm : ∀ x ∈ l, x.may = true) :
    Calls Tryz.prog 79 #[.slice (some ⟨b, off, none⟩) n c] w (GivesJN (joinC l) w) := by
  obtain ⟨x, r, rfl⟩ : ∃ x r, l = x :: r := by
    cases l with
    | nil => simp at hn; omega
    | cons x r => exact ⟨x, r, rfl⟩
  obtain ⟨i0, hi0, hz0, hz1, hz2⟩ := info_parts Tryz.info5
  obtain ⟨hbw, -, -, -, q0, -, -, -⟩ := hS.at_ 0 (by omega)
  simp only [Nat.zero_mul, Nat.add_zero, List.getElem_cons_zero] at q0
  obtain ⟨o0, ho0⟩ : ∃ z, z = x.owner := ⟨_, rfl⟩
  rw [← ho0] at q0
  have HK := Lib.hid ho0
  have HQ := Lib.hid q0
  have HS := Lib.hid hS
  have HN := Lib.hid hn
  have HM := Lib.hid hm
  have HBw := Lib.hid hbw
  have a24 := fun w' => Tryz.aggCell w'
  have s24 := fun w' => Tryz.sizeCell w'
  clear hS hn hm q0 ho0 hbw
  go_enter Tryz.func79, Tryz.ntmps79
  go_wp2
  go_loopw [4, 5, 6, 9] (fun v _ _ y wr => ∃ i : Nat, i ≤ n ∧ y = .int .i64 (i : Int) ∧ ∃ (A : Option Addr) (q k : Nat), v = .slice A q k ∧ q ≤ 242 * i ∧ ∃ P : List UInt8, Hid (q = P.length ∧ P = ((x :: r).take i).flatMap (·.data) ∧ ∀ j (hj : j < (x :: r).length), j < i → joinOk o0 n j (x :: r)[j] = true) ∧ Hid (wr.ownsRow w.heap.size 5 1 (.slice A q k) q (cells P)) ∧ Hid (Below w.heap.size w wr)) (fun _ _ _ y _ => n - (intOf y).toNat)
  case atStart => exact ⟨0, by omega, rfl, none, 0, 0, rfl, by omega, [], ⟨rfl, by simp, fun j _ hj => by omega⟩, World.ownsRow_nil _ _ _ _, Below.refl _ _⟩
  case round =>
    obtain ⟨i, hi, rfl, A, q, k, rfl, hq, P, HP, HO, HB⟩ := hrel
    by_cases hlt : i < n
    · have dl : decide ((i : Int) < (n : Int)) = true := decide_eq_true (by omega)
      have dl2 : decide (i < n) = true := decide_eq_true hlt
      have hil : i < (x :: r).length := by rw [← HN.out]; exact hlt
      obtain ⟨s, hs⟩ : ∃ s, s = (x :: r)[i] := ⟨_, rfl⟩
      have hsm : s.may = true := by rw [hs]; exact HM.out _ (List.getElem_mem hil)
      have hd48 : s.data.length ≤ 242 := ((Ce.may_iff _).1 hsm).2.2.2.2.2.2.2
      obtain ⟨hbw, dA, dc, rA, p0, p1, p2, p3⟩ := HS.out.at_ i hil
      rw [← hs] at rA p0 p1 p2 p3
      obtain ⟨ow, how⟩ : ∃ z, z = s.owner := ⟨_, rfl⟩
      obtain ⟨nu, hnu⟩ : ∃ z, z = s.number := ⟨_, rfl⟩
      obtain ⟨nx, hnx⟩ : ∃ z, z = s.next := ⟨_, rfl⟩
      obtain ⟨dl', hdl⟩ : ∃ z, z = s.data.length := ⟨_, rfl⟩
      rw [← how] at p0
      rw [← hnu] at p1
      rw [← hnx] at p2
      rw [← hdl] at p3
      have u0 := (HB.out.cell (p := ⟨b, off + i * 4, none⟩) hbw).trans p0
      have u1 := (HB.out.cell (p := ⟨b, off + i * 4 + 1, none⟩) hbw).trans p1
      have u2 := (HB.out.cell (p := ⟨b, off + i * 4 + 2, none⟩) hbw).trans p2
      have u3 := (HB.out.cell (p := ⟨b, off + i * 4 + 3, none⟩) hbw).trans p3
      have HSd : Hid (dl' = s.data.length ∧ s = (x :: r)[i]'hil) := ⟨hdl, hs⟩
      have HRA : Hid (∀ W, Below w.heap.size w W → Reads W W.heap.size 1 dA dl' (cells s.data)) := fun W hb => by
        have h2 := rb_up7 rA hb
        unfold RB at h2
        rw [← hdl] at h2
        exact h2
      have HDl : Hid (dl' ≤ 242) := by show dl' ≤ 242; rw [hdl]; exact hd48
      have HMy : Hid (∀ W, Calls Tryz.prog 61 #[.agg #[.int .i64 ow, .int .i64 nu, .int .i64 nx, .slice dA dl' dc]] W fun e w' => e = .returned (.bool true) ∧ Below W.heap.size W w') := fun W => by
        have h1 := cmaybe_any s dA dc W
        unfold ceV at h1
        rw [← how, ← hnu, ← hnx, ← hdl, hsm] at h1
        exact h1
      obtain ⟨la, hla⟩ : ∃ v, v = decide (i + 1 = n) := ⟨_, rfl⟩
      have HFi : Hid (∀ W, Calls Tryz.prog 97 #[.agg #[.int .i64 ow, .int .i64 nu, .int .i64 nx, .slice dA dl' dc], .bool la] W fun e w' => e = .returned (.bool (s.fits la)) ∧ Below W.heap.size W w') := fun W => by
        have h1 := cfits_any s dA dc la W
        unfold ceV at h1
        rw [← how, ← hnu, ← hnx, ← hdl] at h1
        exact h1
      have HC : Hid (∀ W, Below (wr.alloc (.cells #[.int .i64 ow, .int .i64 nu, .int .i64 nx, .slice dA dl' dc] 64)).heap.size (wr.alloc (.cells #[.int .i64 ow, .int .i64 nu, .int .i64 nx, .slice dA dl' dc] 64)) W → W.cell? ⟨wr.heap.size, 0, none⟩ = some (.int .i64 ow) ∧ W.cell? ⟨wr.heap.size, 1, none⟩ = some (.int .i64 nu) ∧ W.cell? ⟨wr.heap.size, 2, none⟩ = some (.int .i64 nx) ∧ W.cell? ⟨wr.heap.size, 3, none⟩ = some (.slice dA dl' dc) ∧ W.cell? ⟨b, off, none⟩ = some (.int .i64 o0)) := fun W hb => by
        obtain ⟨t0, t1, t2, t3⟩ := cell_at wr W ow nu nx dA dl' dc hb
        have hbW : Below w.heap.size w W := HB.out.trans ((((Below.refl _ _).alloc (Nat.le_refl _) _).trans (hb.mono (by simp))).mono HB.out.size)
        exact ⟨t0, t1, t2, t3, (hbW.cell (p := ⟨b, off, none⟩) hbw).trans HQ.out⟩
      have hB0 : Hid (∀ W, Below (wr.alloc (.cells #[.int .i64 ow, .int .i64 nu, .int .i64 nx, .slice dA dl' dc] 64)).heap.size (wr.alloc (.cells #[.int .i64 ow, .int .i64 nu, .int .i64 nx, .slice dA dl' dc] 64)) W → Below wr.heap.size wr W) := fun W hb => ((Below.refl _ _).alloc (Nat.le_refl _) _).trans (hb.mono (by simp))
      have HGd : Hid (joinOk o0 n i s = (decide (ow = o0) && (decide (nu = (i : Int)) && s.fits la))) := by
        show _ = _
        rw [joinOk_fits o0 n i s hsm, how, hnu, hla]
      have HOdd : Hid (joinOk o0 n i s = false → joinC (x :: r) = none) := fun h => by
        refine cjoin_odd hil ?_
        rw [← hs, ← HN.out, ← HK.out]
        exact h
      have y1 : IntKind.i64.wrap ((n : Int) - 1) = (n : Int) - 1 := IntWalk.i64_in _ (by omega)
      have el : ((i : Int) == (n : Int) - 1) = la := by
        rw [hla]
        by_cases h : i + 1 = n
        · rw [decide_eq_true h]; simp; omega
        · rw [decide_eq_false h]; simp; omega
      have HE := Lib.hid (And.intro y1 el)
      clear p0 p1 p2 p3 rA how hnu hnx hdl hd48 hbw hla y1 el hsm hs
      have y7 : IntKind.i64.wrap ((i : Int) + 1) = (i : Int) + 1 := IntWalk.i64_in _ (by omega)
      have dz : decide (0 < n) = true := decide_eq_true h0
      have HR : Hid (∀ W, Below (wr.alloc (.cells #[.int .i64 ow, .int .i64 nu, .int .i64 nx, .slice dA dl' dc] 64)).heap.size (wr.alloc (.cells #[.int .i64 ow, .int .i64 nu, .int .i64 nx, .slice dA dl' dc] 64)) W → W.rangeAt wr.heap.size 0 [.int .i64 ow, .int .i64 nu, .int .i64 nx, .slice dA dl' dc] ∧ W.cell? ⟨wr.heap.size, 0, none⟩ = some (.int .i64 ow) ∧ W.cell? ⟨wr.heap.size, 1, none⟩ = some (.int .i64 nu) ∧ W.cell? ⟨b, off, none⟩ = some (.int .i64 o0)) := fun W hb => by
        obtain ⟨t0, t1, t2, t3, t4⟩ := HC.out W hb
        exact ⟨range4 t0 t1 t2 t3, t0, t1, t4⟩
      by_cases h1 : ow = o0
      rotate_left
      · have HE1 : Hid ((ow != o0) = true) := by show _ = _; simp; exact h1
        have HV := Lib.hid (HOdd.out (by rw [HGd.out, decide_eq_false h1]; rfl))
        clear h1 HOdd HGd
        go_wp2
        have b0 : Below (wr.alloc (.cells #[.int .i64 ow, .int .i64 nu, .int .i64 nx, .slice dA dl' dc] 64)).heap.size (wr.alloc (.cells #[.int .i64 ow, .int .i64 nu, .int .i64 nx, .slice dA dl' dc] 64)) (wr.alloc (.cells #[.int .i64 ow, .int .i64 nu, .int .i64 nx, .slice dA dl' dc] 64)).drew := (Below.refl _ _).drew
        have hS0 := HR.out _ b0
        refine region_T (fun W => W.rangeAt wr.heap.size 0 [.int .i64 ow, .int .i64 nu, .int .i64 nx, .slice dA dl' dc] ∧ W.cell? ⟨wr.heap.size, 0, none⟩ = some (.int .i64 ow) ∧ W.cell? ⟨wr.heap.size, 1, none⟩ = some (.int .i64 nu) ∧ W.cell? ⟨b, off, none⟩ = some (.int .i64 o0)) (fun _ => false) (by kernel_rfl) ?_
        refine any_asT rfl (listed' := #[false, false, false, false, false, false, false, false, false, false, false, false, false, false, false, false, false, false, false, false, false, false, false, false, false, false, false, false]) (by kernel_rfl) ?_
        refine take_d (i := 0) (.agg #[.int .i64 ow, .int .i64 nu, .int .i64 nx, .slice dA dl' dc]) 14 rfl (by kernel_rfl) (by kernel_rfl) (by kernel_rfl) (by kernel_rfl) rfl (by kernel_rfl) (by kernel_rfl) (fun W hW => load_run 64 (.tmp 6) wr.heap.size 0 [.int .i64 ow, .int .i64 nu, .int .i64 nx, .slice dA dl' dc] _ (by kernel_rfl) (by kernel_rfl) hW.1 Tryz.underlying64 rfl (by kernel_rfl) #[.int .i64 ow, .int .i64 nu, .int .i64 nx, .slice dA dl' dc] rfl) hS0 (fun _ _ _ h => h) ?_
        simp only [Act.put, List.setIfInBounds_toArray, List.set_cons_zero, List.set_cons_succ]
        refine any_comes (i := 1) (by kernel_rfl) (op_enter 61 #[.agg #[.int .i64 ow, .int .i64 nu, .int .i64 nx, .slice dA dl' dc]] (some 15) rfl (by kernel_rfl) (by kernel_rfl) (by kernel_rfl) ((HMy.out _).mono ?_))
        rintro e w1 ⟨rfl, m1⟩
        have b1 := b0.trans (m1.mono b0.size)
        have hS1 := HR.out _ b1
        refine ⟨_, rfl, hS1, ?_⟩
        simp only [Act.put, List.setIfInBounds_toArray, List.set_cons_zero, List.set_cons_succ]
        refine take_d (i := 2) (.bool false) 16 rfl (by kernel_rfl) (by kernel_rfl) (by kernel_rfl) (by kernel_rfl) rfl (by kernel_rfl) (by kernel_rfl) (fun W hW => by kernel_rfl) hS1 (fun _ _ _ h => h) ?_
        simp only [Act.put, List.setIfInBounds_toArray, List.set_cons_zero, List.set_cons_succ]
        refine take_d (i := 3) (.bool false) 17 rfl (by kernel_rfl) (by kernel_rfl) (by kernel_rfl) (by kernel_rfl) rfl (by kernel_rfl) (by kernel_rfl) (fun W hW => by kernel_rfl) hS1 (fun _ _ _ h => h) ?_
        simp only [Act.put, List.setIfInBounds_toArray, List.set_cons_zero, List.set_cons_succ]
        refine take_d (i := 4) (.pointer (some ⟨wr.heap.size, 0, none⟩)) 18 rfl (by kernel_rfl) (by kernel_rfl) (by kernel_rfl) (by kernel_rfl) rfl (by kernel_rfl) (by kernel_rfl) (fun W hW => by kernel_rfl) hS1 (fun _ _ _ h => h) ?_
        simp only [Act.put, List.setIfInBounds_toArray, List.set_cons_zero, List.set_cons_succ]
        refine take_d (i := 5) (.int .i64 ow) 19 rfl (by kernel_rfl) (by kernel_rfl) (by kernel_rfl) (by kernel_rfl) rfl (by kernel_rfl) (by kernel_rfl) (fun W hW => cell_run 3 (.tmp 18) ⟨wr.heap.size, 0, none⟩ (.int .i64 ow) _ (by kernel_rfl) (by kernel_rfl) hW.2.1 Tryz.underlying3 rfl (by kernel_rfl)) hS1 (fun _ _ _ h => h) ?_
        simp only [Act.put, List.setIfInBounds_toArray, List.set_cons_zero, List.set_cons_succ]
        refine take_d (i := 6) (.slice (some ⟨b, off, none⟩) n c) 20 rfl (by kernel_rfl) (by kernel_rfl) (by kernel_rfl) (by kernel_rfl) rfl (by kernel_rfl) (by kernel_rfl) (fun W hW => by kernel_rfl) hS1 (fun _ _ _ h => h) ?_
        simp only [Act.put, List.setIfInBounds_toArray, List.set_cons_zero, List.set_cons_succ]
        refine take_d (i := 7) (.pointer (some ⟨b, off, none⟩)) 21 rfl (by kernel_rfl) (by kernel_rfl) (by kernel_rfl) (by kernel_rfl) rfl (by kernel_rfl) (by kernel_rfl) (fun W hW => cidx_first b off n c (.tmp 20) (.const (.int .i64 0)) (by kernel_rfl) (by kernel_rfl) (by kernel_rfl) h0) hS1 (fun _ _ _ h => h) ?_
        simp only [Act.put, List.setIfInBounds_toArray, List.set_cons_zero, List.set_cons_succ]
        refine take_d (i := 8) (.pointer (some ⟨b, off, none⟩)) 22 rfl (by kernel_rfl) (by kernel_rfl) (by kernel_rfl) (by kernel_rfl) rfl (by kernel_rfl) (by kernel_rfl) (fun W hW => by kernel_rfl) hS1 (fun _ _ _ h => h) ?_
        simp only [Act.put, List.setIfInBounds_toArray, List.set_cons_zero, List.set_cons_succ]
        refine take_d (i := 9) (.int .i64 o0) 23 rfl (by kernel_rfl) (by kernel_rfl) (by kernel_rfl) (by kernel_rfl) rfl (by kernel_rfl) (by kernel_rfl) (fun W hW => cell_run 3 (.tmp 22) ⟨b, off, none⟩ (.int .i64 o0) _ (by kernel_rfl) (by kernel_rfl) hW.2.2.2 Tryz.underlying3 rfl (by kernel_rfl)) hS1 (fun _ _ _ h => h) ?_
        simp only [Act.put, List.setIfInBounds_toArray, List.set_cons_zero, List.set_cons_succ]
        refine take_d (i := 10) (.bool true) 24 rfl (by kernel_rfl) (by kernel_rfl) (by kernel_rfl) (by kernel_rfl) rfl (by kernel_rfl) (by kernel_rfl) (fun W hW => neq_run (.tmp 19) (.tmp 23) ow o0 (by kernel_rfl) (by kernel_rfl) (by kernel_rfl) _ HE1.out) hS1 (fun _ _ _ h => h) ?_
        simp only [Act.put, List.setIfInBounds_toArray, List.set_cons_zero, List.set_cons_succ]
        refine take_d (i := 11) (.bool true) 25 rfl (by kernel_rfl) (by kernel_rfl) (by kernel_rfl) (by kernel_rfl) rfl (by kernel_rfl) (by kernel_rfl) (fun W hW => by kernel_rfl) hS1 (fun _ _ _ h => h) ?_
        simp only [Act.put, List.setIfInBounds_toArray, List.set_cons_zero, List.set_cons_succ]
        refine take_d (i := 12) (.bool true) 26 rfl (by kernel_rfl) (by kernel_rfl) (by kernel_rfl) (by kernel_rfl) rfl (by kernel_rfl) (by kernel_rfl) (fun W hW => by kernel_rfl) hS1 (fun _ _ _ h => h) ?_
        simp only [Act.put, List.setIfInBounds_toArray, List.set_cons_zero, List.set_cons_succ]
        refine skip_d (i := 13) 27 rfl (by kernel_rfl) (by kernel_rfl) (by kernel_rfl) (by kernel_rfl) rfl (by kernel_rfl) (by kernel_rfl) hS1 (fun _ _ _ h => h) ?_
        simp only [Act.put, List.setIfInBounds_toArray, List.set_cons_zero, List.set_cons_succ]
        refine skip_d (i := 14) 28 rfl (by kernel_rfl) (by kernel_rfl) (by kernel_rfl) (by kernel_rfl) rfl (by kernel_rfl) (by kernel_rfl) hS1 (fun _ _ _ h => h) ?_
        simp only [Act.put, List.setIfInBounds_toArray, List.set_cons_zero, List.set_cons_succ]
        refine skip_d (i := 15) 29 rfl (by kernel_rfl) (by kernel_rfl) (by kernel_rfl) (by kernel_rfl) rfl (by kernel_rfl) (by kernel_rfl) hS1 (fun _ _ _ h => h) ?_
        simp only [Act.put, List.setIfInBounds_toArray, List.set_cons_zero, List.set_cons_succ]
        refine skip_d (i := 16) 30 rfl (by kernel_rfl) (by kernel_rfl) (by kernel_rfl) (by kernel_rfl) rfl (by kernel_rfl) (by kernel_rfl) hS1 (fun _ _ _ h => h) ?_
        simp only [Act.put, List.setIfInBounds_toArray, List.set_cons_zero, List.set_cons_succ]
        refine take_d (i := 17) (.bool true) 31 rfl (by kernel_rfl) (by kernel_rfl) (by kernel_rfl) (by kernel_rfl) rfl (by kernel_rfl) (by kernel_rfl) (fun W hW => by kernel_rfl) hS1 (fun _ _ _ h => h) ?_
        simp only [Act.put, List.setIfInBounds_toArray, List.set_cons_zero, List.set_cons_succ]
        refine take_d (i := 18) (.bool true) 32 rfl (by kernel_rfl) (by kernel_rfl) (by kernel_rfl) (by kernel_rfl) rfl (by kernel_rfl) (by kernel_rfl) (fun W hW => by kernel_rfl) hS1 (fun _ _ _ h => h) ?_
        simp only [Act.put, List.setIfInBounds_toArray, List.set_cons_zero, List.set_cons_succ]
        refine skip_d (i := 19) 33 rfl (by kernel_rfl) (by kernel_rfl) (by kernel_rfl) (by kernel_rfl) rfl (by kernel_rfl) (by kernel_rfl) hS1 (fun _ _ _ h => h) ?_
        simp only [Act.put, List.setIfInBounds_toArray, List.set_cons_zero, List.set_cons_succ]
        refine skip_d (i := 20) 34 rfl (by kernel_rfl) (by kernel_rfl) (by kernel_rfl) (by kernel_rfl) rfl (by kernel_rfl) (by kernel_rfl) hS1 (fun _ _ _ h => h) ?_
        simp only [Act.put, List.setIfInBounds_toArray, List.set_cons_zero, List.set_cons_succ]
        refine skip_d (i := 21) 35 rfl (by kernel_rfl) (by kernel_rfl) (by kernel_rfl) (by kernel_rfl) rfl (by kernel_rfl) (by kernel_rfl) hS1 (fun _ _ _ h => h) ?_
        simp only [Act.put, List.setIfInBounds_toArray, List.set_cons_zero, List.set_cons_succ]
        refine skip_d (i := 22) 36 rfl (by kernel_rfl) (by kernel_rfl) (by kernel_rfl) (by kernel_rfl) rfl (by kernel_rfl) (by kernel_rfl) hS1 (fun _ _ _ h => h) ?_
        simp only [Act.put, List.setIfInBounds_toArray, List.set_cons_zero, List.set_cons_succ]
        refine skip_d (i := 23) 37 rfl (by kernel_rfl) (by kernel_rfl) (by kernel_rfl) (by kernel_rfl) rfl (by kernel_rfl) (by kernel_rfl) hS1 (fun _ _ _ h => h) ?_
        simp only [Act.put, List.setIfInBounds_toArray, List.set_cons_zero, List.set_cons_succ]
        refine skip_d (i := 24) 38 rfl (by kernel_rfl) (by kernel_rfl) (by kernel_rfl) (by kernel_rfl) rfl (by kernel_rfl) (by kernel_rfl) hS1 (fun _ _ _ h => h) ?_
        simp only [Act.put, List.setIfInBounds_toArray, List.set_cons_zero, List.set_cons_succ]
        refine skip_d (i := 25) 39 rfl (by kernel_rfl) (by kernel_rfl) (by kernel_rfl) (by kernel_rfl) rfl (by kernel_rfl) (by kernel_rfl) hS1 (fun _ _ _ h => h) ?_
        simp only [Act.put, List.setIfInBounds_toArray, List.set_cons_zero, List.set_cons_succ]
        refine skip_d (i := 26) 40 rfl (by kernel_rfl) (by kernel_rfl) (by kernel_rfl) (by kernel_rfl) rfl (by kernel_rfl) (by kernel_rfl) hS1 (fun _ _ _ h => h) ?_
        simp only [Act.put, List.setIfInBounds_toArray, List.set_cons_zero, List.set_cons_succ]
        refine take_d (i := 27) (.bool true) 41 rfl (by kernel_rfl) (by kernel_rfl) (by kernel_rfl) (by kernel_rfl) rfl (by kernel_rfl) (by kernel_rfl) (fun W hW => by kernel_rfl) hS1 (fun _ _ _ h => h) ?_
        simp only [Act.put, List.setIfInBounds_toArray, List.set_cons_zero, List.set_cons_succ]
        refine ⟨by kernel_rfl, ?_⟩
        all_goals
          have hbf := HB.out.trans ((hB0.out _ b1).mono HB.out.size)
          go_wp2
          go_ret2
          exact ⟨none, 0, by rw [HV.out]; rfl, by rw [HV.out]; exact RB.none_ _ _, (fun _ e => by cases e), hbf⟩
      by_cases h2 : nu = (i : Int)
      rotate_left
      · have HE1 : Hid ((ow != o0) = false) := by show _ = _; simp; exact h1
        have HE2 : Hid ((nu != (i : Int)) = true) := by show _ = _; simp; exact h2
        have HV := Lib.hid (HOdd.out (by rw [HGd.out, decide_eq_false h2]; simp))
        clear h1 h2 HOdd HGd
        go_wp2
        have b0 : Below (wr.alloc (.cells #[.int .i64 ow, .int .i64 nu, .int .i64 nx, .slice dA dl' dc] 64)).heap.size (wr.alloc (.cells #[.int .i64 ow, .int .i64 nu, .int .i64 nx, .slice dA dl' dc] 64)) (wr.alloc (.cells #[.int .i64 ow, .int .i64 nu, .int .i64 nx, .slice dA dl' dc] 64)).drew := (Below.refl _ _).drew
        have hS0 := HR.out _ b0
        refine region_T (fun W => W.rangeAt wr.heap.size 0 [.int .i64 ow, .int .i64 nu, .int .i64 nx, .slice dA dl' dc] ∧ W.cell? ⟨wr.heap.size, 0, none⟩ = some (.int .i64 ow) ∧ W.cell? ⟨wr.heap.size, 1, none⟩ = some (.int .i64 nu) ∧ W.cell? ⟨b, off, none⟩ = some (.int .i64 o0)) (fun _ => false) (by kernel_rfl) ?_
        refine any_asT rfl (listed' := #[false, false, false, false, false, false, false, false, false, false, false, false, false, false, false, false, false, false, false, false, false, false, false, false, false, false, false, false]) (by kernel_rfl) ?_
        refine take_d (i := 0) (.agg #[.int .i64 ow, .int .i64 nu, .int .i64 nx, .slice dA dl' dc]) 14 rfl (by kernel_rfl) (by kernel_rfl) (by kernel_rfl) (by kernel_rfl) rfl (by kernel_rfl) (by kernel_rfl) (fun W hW => load_run 64 (.tmp 6) wr.heap.size 0 [.int .i64 ow, .int .i64 nu, .int .i64 nx, .slice dA dl' dc] _ (by kernel_rfl) (by kernel_rfl) hW.1 Tryz.underlying64 rfl (by kernel_rfl) #[.int .i64 ow, .int .i64 nu, .int .i64 nx, .slice dA dl' dc] rfl) hS0 (fun _ _ _ h => h) ?_
        simp only [Act.put, List.setIfInBounds_toArray, List.set_cons_zero, List.set_cons_succ]
        refine any_comes (i := 1) (by kernel_rfl) (op_enter 61 #[.agg #[.int .i64 ow, .int .i64 nu, .int .i64 nx, .slice dA dl' dc]] (some 15) rfl (by kernel_rfl) (by kernel_rfl) (by kernel_rfl) ((HMy.out _).mono ?_))
        rintro e w1 ⟨rfl, m1⟩
        have b1 := b0.trans (m1.mono b0.size)
        have hS1 := HR.out _ b1
        refine ⟨_, rfl, hS1, ?_⟩
        simp only [Act.put, List.setIfInBounds_toArray, List.set_cons_zero, List.set_cons_succ]
        refine take_d (i := 2) (.bool false) 16 rfl (by kernel_rfl) (by kernel_rfl) (by kernel_rfl) (by kernel_rfl) rfl (by kernel_rfl) (by kernel_rfl) (fun W hW => by kernel_rfl) hS1 (fun _ _ _ h => h) ?_
        simp only [Act.put, List.setIfInBounds_toArray, List.set_cons_zero, List.set_cons_succ]
        refine take_d (i := 3) (.bool false) 17 rfl (by kernel_rfl) (by kernel_rfl) (by kernel_rfl) (by kernel_rfl) rfl (by kernel_rfl) (by kernel_rfl) (fun W hW => by kernel_rfl) hS1 (fun _ _ _ h => h) ?_
        simp only [Act.put, List.setIfInBounds_toArray, List.set_cons_zero, List.set_cons_succ]
        refine take_d (i := 4) (.pointer (some ⟨wr.heap.size, 0, none⟩)) 18 rfl (by kernel_rfl) (by kernel_rfl) (by kernel_rfl) (by kernel_rfl) rfl (by kernel_rfl) (by kernel_rfl) (fun W hW => by kernel_rfl) hS1 (fun _ _ _ h => h) ?_
        simp only [Act.put, List.setIfInBounds_toArray, List.set_cons_zero, List.set_cons_succ]
        refine take_d (i := 5) (.int .i64 ow) 19 rfl (by kernel_rfl) (by kernel_rfl) (by kernel_rfl) (by kernel_rfl) rfl (by kernel_rfl) (by kernel_rfl) (fun W hW => cell_run 3 (.tmp 18) ⟨wr.heap.size, 0, none⟩ (.int .i64 ow) _ (by kernel_rfl) (by kernel_rfl) hW.2.1 Tryz.underlying3 rfl (by kernel_rfl)) hS1 (fun _ _ _ h => h) ?_
        simp only [Act.put, List.setIfInBounds_toArray, List.set_cons_zero, List.set_cons_succ]
        refine take_d (i := 6) (.slice (some ⟨b, off, none⟩) n c) 20 rfl (by kernel_rfl) (by kernel_rfl) (by kernel_rfl) (by kernel_rfl) rfl (by kernel_rfl) (by kernel_rfl) (fun W hW => by kernel_rfl) hS1 (fun _ _ _ h => h) ?_
        simp only [Act.put, List.setIfInBounds_toArray, List.set_cons_zero, List.set_cons_succ]
        refine take_d (i := 7) (.pointer (some ⟨b, off, none⟩)) 21 rfl (by kernel_rfl) (by kernel_rfl) (by kernel_rfl) (by kernel_rfl) rfl (by kernel_rfl) (by kernel_rfl) (fun W hW => cidx_first b off n c (.tmp 20) (.const (.int .i64 0)) (by kernel_rfl) (by kernel_rfl) (by kernel_rfl) h0) hS1 (fun _ _ _ h => h) ?_
        simp only [Act.put, List.setIfInBounds_toArray, List.set_cons_zero, List.set_cons_succ]
        refine take_d (i := 8) (.pointer (some ⟨b, off, none⟩)) 22 rfl (by kernel_rfl) (by kernel_rfl) (by kernel_rfl) (by kernel_rfl) rfl (by kernel_rfl) (by kernel_rfl) (fun W hW => by kernel_rfl) hS1 (fun _ _ _ h => h) ?_
        simp only [Act.put, List.setIfInBounds_toArray, List.set_cons_zero, List.set_cons_succ]
        refine take_d (i := 9) (.int .i64 o0) 23 rfl (by kernel_rfl) (by kernel_rfl) (by kernel_rfl) (by kernel_rfl) rfl (by kernel_rfl) (by kernel_rfl) (fun W hW => cell_run 3 (.tmp 22) ⟨b, off, none⟩ (.int .i64 o0) _ (by kernel_rfl) (by kernel_rfl) hW.2.2.2 Tryz.underlying3 rfl (by kernel_rfl)) hS1 (fun _ _ _ h => h) ?_
        simp only [Act.put, List.setIfInBounds_toArray, List.set_cons_zero, List.set_cons_succ]
        refine take_d (i := 10) (.bool false) 24 rfl (by kernel_rfl) (by kernel_rfl) (by kernel_rfl) (by kernel_rfl) rfl (by kernel_rfl) (by kernel_rfl) (fun W hW => neq_run (.tmp 19) (.tmp 23) ow o0 (by kernel_rfl) (by kernel_rfl) (by kernel_rfl) _ HE1.out) hS1 (fun _ _ _ h => h) ?_
        simp only [Act.put, List.setIfInBounds_toArray, List.set_cons_zero, List.set_cons_succ]
        refine take_d (i := 11) (.bool false) 25 rfl (by kernel_rfl) (by kernel_rfl) (by kernel_rfl) (by kernel_rfl) rfl (by kernel_rfl) (by kernel_rfl) (fun W hW => by kernel_rfl) hS1 (fun _ _ _ h => h) ?_
        simp only [Act.put, List.setIfInBounds_toArray, List.set_cons_zero, List.set_cons_succ]
        refine take_d (i := 12) (.bool false) 26 rfl (by kernel_rfl) (by kernel_rfl) (by kernel_rfl) (by kernel_rfl) rfl (by kernel_rfl) (by kernel_rfl) (fun W hW => by kernel_rfl) hS1 (fun _ _ _ h => h) ?_
        simp only [Act.put, List.setIfInBounds_toArray, List.set_cons_zero, List.set_cons_succ]
        refine take_d (i := 13) (.pointer (some ⟨wr.heap.size, 1, none⟩)) 27 rfl (by kernel_rfl) (by kernel_rfl) (by kernel_rfl) (by kernel_rfl) rfl (by kernel_rfl) (by kernel_rfl) (fun W hW => by kernel_rfl) hS1 (fun _ _ _ h => h) ?_
        simp only [Act.put, List.setIfInBounds_toArray, List.set_cons_zero, List.set_cons_succ]
        refine take_d (i := 14) (.int .i64 nu) 28 rfl (by kernel_rfl) (by kernel_rfl) (by kernel_rfl) (by kernel_rfl) rfl (by kernel_rfl) (by kernel_rfl) (fun W hW => cell_run 3 (.tmp 27) ⟨wr.heap.size, 1, none⟩ (.int .i64 nu) _ (by kernel_rfl) (by kernel_rfl) hW.2.2.1 Tryz.underlying3 rfl (by kernel_rfl)) hS1 (fun _ _ _ h => h) ?_
        simp only [Act.put, List.setIfInBounds_toArray, List.set_cons_zero, List.set_cons_succ]
        refine take_d (i := 15) (.int .i64 (i : Int)) 29 rfl (by kernel_rfl) (by kernel_rfl) (by kernel_rfl) (by kernel_rfl) rfl (by kernel_rfl) (by kernel_rfl) (fun W hW => by kernel_rfl) hS1 (fun _ _ _ h => h) ?_
        simp only [Act.put, List.setIfInBounds_toArray, List.set_cons_zero, List.set_cons_succ]
        refine take_d (i := 16) (.bool true) 30 rfl (by kernel_rfl) (by kernel_rfl) (by kernel_rfl) (by kernel_rfl) rfl (by kernel_rfl) (by kernel_rfl) (fun W hW => neq_run (.tmp 28) (.tmp 29) nu (i : Int) (by kernel_rfl) (by kernel_rfl) (by kernel_rfl) _ HE2.out) hS1 (fun _ _ _ h => h) ?_
        simp only [Act.put, List.setIfInBounds_toArray, List.set_cons_zero, List.set_cons_succ]
        refine take_d (i := 17) (.bool true) 31 rfl (by kernel_rfl) (by kernel_rfl) (by kernel_rfl) (by kernel_rfl) rfl (by kernel_rfl) (by kernel_rfl) (fun W hW => by kernel_rfl) hS1 (fun _ _ _ h => h) ?_
        simp only [Act.put, List.setIfInBounds_toArray, List.set_cons_zero, List.set_cons_succ]
        refine take_d (i := 18) (.bool true) 32 rfl (by kernel_rfl) (by kernel_rfl) (by kernel_rfl) (by kernel_rfl) rfl (by kernel_rfl) (by kernel_rfl) (fun W hW => by kernel_rfl) hS1 (fun _ _ _ h => h) ?_
        simp only [Act.put, List.setIfInBounds_toArray, List.set_cons_zero, List.set_cons_succ]
        refine skip_d (i := 19) 33 rfl (by kernel_rfl) (by kernel_rfl) (by kernel_rfl) (by kernel_rfl) rfl (by kernel_rfl) (by kernel_rfl) hS1 (fun _ _ _ h => h) ?_
        simp only [Act.put, List.setIfInBounds_toArray, List.set_cons_zero, List.set_cons_succ]
        refine skip_d (i := 20) 34 rfl (by kernel_rfl) (by kernel_rfl) (by kernel_rfl) (by kernel_rfl) rfl (by kernel_rfl) (by kernel_rfl) hS1 (fun _ _ _ h => h) ?_
        simp only [Act.put, List.setIfInBounds_toArray, List.set_cons_zero, List.set_cons_succ]
        refine skip_d (i := 21) 35 rfl (by kernel_rfl) (by kernel_rfl) (by kernel_rfl) (by kernel_rfl) rfl (by kernel_rfl) (by kernel_rfl) hS1 (fun _ _ _ h => h) ?_
        simp only [Act.put, List.setIfInBounds_toArray, List.set_cons_zero, List.set_cons_succ]
        refine skip_d (i := 22) 36 rfl (by kernel_rfl) (by kernel_rfl) (by kernel_rfl) (by kernel_rfl) rfl (by kernel_rfl) (by kernel_rfl) hS1 (fun _ _ _ h => h) ?_
        simp only [Act.put, List.setIfInBounds_toArray, List.set_cons_zero, List.set_cons_succ]
        refine skip_d (i := 23) 37 rfl (by kernel_rfl) (by kernel_rfl) (by kernel_rfl) (by kernel_rfl) rfl (by kernel_rfl) (by kernel_rfl) hS1 (fun _ _ _ h => h) ?_
        simp only [Act.put, List.setIfInBounds_toArray, List.set_cons_zero, List.set_cons_succ]
        refine skip_d (i := 24) 38 rfl (by kernel_rfl) (by kernel_rfl) (by kernel_rfl) (by kernel_rfl) rfl (by kernel_rfl) (by kernel_rfl) hS1 (fun _ _ _ h => h) ?_
        simp only [Act.put, List.setIfInBounds_toArray, List.set_cons_zero, List.set_cons_succ]
        refine skip_d (i := 25) 39 rfl (by kernel_rfl) (by kernel_rfl) (by kernel_rfl) (by kernel_rfl) rfl (by kernel_rfl) (by kernel_rfl) hS1 (fun _ _ _ h => h) ?_
        simp only [Act.put, List.setIfInBounds_toArray, List.set_cons_zero, List.set_cons_succ]
        refine skip_d (i := 26) 40 rfl (by kernel_rfl) (by kernel_rfl) (by kernel_rfl) (by kernel_rfl) rfl (by kernel_rfl) (by kernel_rfl) hS1 (fun _ _ _ h => h) ?_
        simp only [Act.put, List.setIfInBounds_toArray, List.set_cons_zero, List.set_cons_succ]
        refine take_d (i := 27) (.bool true) 41 rfl (by kernel_rfl) (by kernel_rfl) (by kernel_rfl) (by kernel_rfl) rfl (by kernel_rfl) (by kernel_rfl) (fun W hW => by kernel_rfl) hS1 (fun _ _ _ h => h) ?_
        simp only [Act.put, List.setIfInBounds_toArray, List.set_cons_zero, List.set_cons_succ]
        refine ⟨by kernel_rfl, ?_⟩
        all_goals
          have hbf := HB.out.trans ((hB0.out _ b1).mono HB.out.size)
          go_wp2
          go_ret2
          exact ⟨none, 0, by rw [HV.out]; rfl, by rw [HV.out]; exact RB.none_ _ _, (fun _ e => by cases e), hbf⟩
      rcases (show s.fits la = false ∨ s.fits la = true by cases s.fits la <;> simp) with h3 | h3
      · have HE1 : Hid ((ow != o0) = false) := by show _ = _; simp; exact h1
        have HE2 : Hid ((nu != (i : Int)) = false) := by show _ = _; simp; exact h2
        rw [h3] at HFi
        have HV := Lib.hid (HOdd.out (by rw [HGd.out, h3]; simp))
        clear h1 h2 h3 HOdd HGd
        go_wp2
        have b0 : Below (wr.alloc (.cells #[.int .i64 ow, .int .i64 nu, .int .i64 nx, .slice dA dl' dc] 64)).heap.size (wr.alloc (.cells #[.int .i64 ow, .int .i64 nu, .int .i64 nx, .slice dA dl' dc] 64)) (wr.alloc (.cells #[.int .i64 ow, .int .i64 nu, .int .i64 nx, .slice dA dl' dc] 64)).drew := (Below.refl _ _).drew
        have hS0 := HR.out _ b0
        refine region_T (fun W => W.rangeAt wr.heap.size 0 [.int .i64 ow, .int .i64 nu, .int .i64 nx, .slice dA dl' dc] ∧ W.cell? ⟨wr.heap.size, 0, none⟩ = some (.int .i64 ow) ∧ W.cell? ⟨wr.heap.size, 1, none⟩ = some (.int .i64 nu) ∧ W.cell? ⟨b, off, none⟩ = some (.int .i64 o0)) (fun _ => false) (by kernel_rfl) ?_
        refine any_asT rfl (listed' := #[false, false, false, false, false, false, false, false, false, false, false, false, false, false, false, false, false, false, false, false, false, false, false, false, false, false, false, false]) (by kernel_rfl) ?_
        refine take_d (i := 0) (.agg #[.int .i64 ow, .int .i64 nu, .int .i64 nx, .slice dA dl' dc]) 14 rfl (by kernel_rfl) (by kernel_rfl) (by kernel_rfl) (by kernel_rfl) rfl (by kernel_rfl) (by kernel_rfl) (fun W hW => load_run 64 (.tmp 6) wr.heap.size 0 [.int .i64 ow, .int .i64 nu, .int .i64 nx, .slice dA dl' dc] _ (by kernel_rfl) (by kernel_rfl) hW.1 Tryz.underlying64 rfl (by kernel_rfl) #[.int .i64 ow, .int .i64 nu, .int .i64 nx, .slice dA dl' dc] rfl) hS0 (fun _ _ _ h => h) ?_
        simp only [Act.put, List.setIfInBounds_toArray, List.set_cons_zero, List.set_cons_succ]
        refine any_comes (i := 1) (by kernel_rfl) (op_enter 61 #[.agg #[.int .i64 ow, .int .i64 nu, .int .i64 nx, .slice dA dl' dc]] (some 15) rfl (by kernel_rfl) (by kernel_rfl) (by kernel_rfl) ((HMy.out _).mono ?_))
        rintro e w1 ⟨rfl, m1⟩
        have b1 := b0.trans (m1.mono b0.size)
        have hS1 := HR.out _ b1
        refine ⟨_, rfl, hS1, ?_⟩
        simp only [Act.put, List.setIfInBounds_toArray, List.set_cons_zero, List.set_cons_succ]
        refine take_d (i := 2) (.bool false) 16 rfl (by kernel_rfl) (by kernel_rfl) (by kernel_rfl) (by kernel_rfl) rfl (by kernel_rfl) (by kernel_rfl) (fun W hW => by kernel_rfl) hS1 (fun _ _ _ h => h) ?_
        simp only [Act.put, List.setIfInBounds_toArray, List.set_cons_zero, List.set_cons_succ]
        refine take_d (i := 3) (.bool false) 17 rfl (by kernel_rfl) (by kernel_rfl) (by kernel_rfl) (by kernel_rfl) rfl (by kernel_rfl) (by kernel_rfl) (fun W hW => by kernel_rfl) hS1 (fun _ _ _ h => h) ?_
        simp only [Act.put, List.setIfInBounds_toArray, List.set_cons_zero, List.set_cons_succ]
        refine take_d (i := 4) (.pointer (some ⟨wr.heap.size, 0, none⟩)) 18 rfl (by kernel_rfl) (by kernel_rfl) (by kernel_rfl) (by kernel_rfl) rfl (by kernel_rfl) (by kernel_rfl) (fun W hW => by kernel_rfl) hS1 (fun _ _ _ h => h) ?_
        simp only [Act.put, List.setIfInBounds_toArray, List.set_cons_zero, List.set_cons_succ]
        refine take_d (i := 5) (.int .i64 ow) 19 rfl (by kernel_rfl) (by kernel_rfl) (by kernel_rfl) (by kernel_rfl) rfl (by kernel_rfl) (by kernel_rfl) (fun W hW => cell_run 3 (.tmp 18) ⟨wr.heap.size, 0, none⟩ (.int .i64 ow) _ (by kernel_rfl) (by kernel_rfl) hW.2.1 Tryz.underlying3 rfl (by kernel_rfl)) hS1 (fun _ _ _ h => h) ?_
        simp only [Act.put, List.setIfInBounds_toArray, List.set_cons_zero, List.set_cons_succ]
        refine take_d (i := 6) (.slice (some ⟨b, off, none⟩) n c) 20 rfl (by kernel_rfl) (by kernel_rfl) (by kernel_rfl) (by kernel_rfl) rfl (by kernel_rfl) (by kernel_rfl) (fun W hW => by kernel_rfl) hS1 (fun _ _ _ h => h) ?_
        simp only [Act.put, List.setIfInBounds_toArray, List.set_cons_zero, List.set_cons_succ]
        refine take_d (i := 7) (.pointer (some ⟨b, off, none⟩)) 21 rfl (by kernel_rfl) (by kernel_rfl) (by kernel_rfl) (by kernel_rfl) rfl (by kernel_rfl) (by kernel_rfl) (fun W hW => cidx_first b off n c (.tmp 20) (.const (.int .i64 0)) (by kernel_rfl) (by kernel_rfl) (by kernel_rfl) h0) hS1 (fun _ _ _ h => h) ?_
        simp only [Act.put, List.setIfInBounds_toArray, List.set_cons_zero, List.set_cons_succ]
        refine take_d (i := 8) (.pointer (some ⟨b, off, none⟩)) 22 rfl (by kernel_rfl) (by kernel_rfl) (by kernel_rfl) (by kernel_rfl) rfl (by kernel_rfl) (by kernel_rfl) (fun W hW => by kernel_rfl) hS1 (fun _ _ _ h => h) ?_
        simp only [Act.put, List.setIfInBounds_toArray, List.set_cons_zero, List.set_cons_succ]
        refine take_d (i := 9) (.int .i64 o0) 23 rfl (by kernel_rfl) (by kernel_rfl) (by kernel_rfl) (by kernel_rfl) rfl (by kernel_rfl) (by kernel_rfl) (fun W hW => cell_run 3 (.tmp 22) ⟨b, off, none⟩ (.int .i64 o0) _ (by kernel_rfl) (by kernel_rfl) hW.2.2.2 Tryz.underlying3 rfl (by kernel_rfl)) hS1 (fun _ _ _ h => h) ?_
        simp only [Act.put, List.setIfInBounds_toArray, List.set_cons_zero, List.set_cons_succ]
        refine take_d (i := 10) (.bool false) 24 rfl (by kernel_rfl) (by kernel_rfl) (by kernel_rfl) (by kernel_rfl) rfl (by kernel_rfl) (by kernel_rfl) (fun W hW => neq_run (.tmp 19) (.tmp 23) ow o0 (by kernel_rfl) (by kernel_rfl) (by kernel_rfl) _ HE1.out) hS1 (fun _ _ _ h => h) ?_
        simp only [Act.put, List.setIfInBounds_toArray, List.set_cons_zero, List.set_cons_succ]
        refine take_d (i := 11) (.bool false) 25 rfl (by kernel_rfl) (by kernel_rfl) (by kernel_rfl) (by kernel_rfl) rfl (by kernel_rfl) (by kernel_rfl) (fun W hW => by kernel_rfl) hS1 (fun _ _ _ h => h) ?_
        simp only [Act.put, List.setIfInBounds_toArray, List.set_cons_zero, List.set_cons_succ]
        refine take_d (i := 12) (.bool false) 26 rfl (by kernel_rfl) (by kernel_rfl) (by kernel_rfl) (by kernel_rfl) rfl (by kernel_rfl) (by kernel_rfl) (fun W hW => by kernel_rfl) hS1 (fun _ _ _ h => h) ?_
        simp only [Act.put, List.setIfInBounds_toArray, List.set_cons_zero, List.set_cons_succ]
        refine take_d (i := 13) (.pointer (some ⟨wr.heap.size, 1, none⟩)) 27 rfl (by kernel_rfl) (by kernel_rfl) (by kernel_rfl) (by kernel_rfl) rfl (by kernel_rfl) (by kernel_rfl) (fun W hW => by kernel_rfl) hS1 (fun _ _ _ h => h) ?_
        simp only [Act.put, List.setIfInBounds_toArray, List.set_cons_zero, List.set_cons_succ]
        refine take_d (i := 14) (.int .i64 nu) 28 rfl (by kernel_rfl) (by kernel_rfl) (by kernel_rfl) (by kernel_rfl) rfl (by kernel_rfl) (by kernel_rfl) (fun W hW => cell_run 3 (.tmp 27) ⟨wr.heap.size, 1, none⟩ (.int .i64 nu) _ (by kernel_rfl) (by kernel_rfl) hW.2.2.1 Tryz.underlying3 rfl (by kernel_rfl)) hS1 (fun _ _ _ h => h) ?_
        simp only [Act.put, List.setIfInBounds_toArray, List.set_cons_zero, List.set_cons_succ]
        refine take_d (i := 15) (.int .i64 (i : Int)) 29 rfl (by kernel_rfl) (by kernel_rfl) (by kernel_rfl) (by kernel_rfl) rfl (by kernel_rfl) (by kernel_rfl) (fun W hW => by kernel_rfl) hS1 (fun _ _ _ h => h) ?_
        simp only [Act.put, List.setIfInBounds_toArray, List.set_cons_zero, List.set_cons_succ]
        refine take_d (i := 16) (.bool false) 30 rfl (by kernel_rfl) (by kernel_rfl) (by kernel_rfl) (by kernel_rfl) rfl (by kernel_rfl) (by kernel_rfl) (fun W hW => neq_run (.tmp 28) (.tmp 29) nu (i : Int) (by kernel_rfl) (by kernel_rfl) (by kernel_rfl) _ HE2.out) hS1 (fun _ _ _ h => h) ?_
        simp only [Act.put, List.setIfInBounds_toArray, List.set_cons_zero, List.set_cons_succ]
        refine take_d (i := 17) (.bool false) 31 rfl (by kernel_rfl) (by kernel_rfl) (by kernel_rfl) (by kernel_rfl) rfl (by kernel_rfl) (by kernel_rfl) (fun W hW => by kernel_rfl) hS1 (fun _ _ _ h => h) ?_
        simp only [Act.put, List.setIfInBounds_toArray, List.set_cons_zero, List.set_cons_succ]
        refine take_d (i := 18) (.bool false) 32 rfl (by kernel_rfl) (by kernel_rfl) (by kernel_rfl) (by kernel_rfl) rfl (by kernel_rfl) (by kernel_rfl) (fun W hW => by kernel_rfl) hS1 (fun _ _ _ h => h) ?_
        simp only [Act.put, List.setIfInBounds_toArray, List.set_cons_zero, List.set_cons_succ]
        refine take_d (i := 19) (.agg #[.int .i64 ow, .int .i64 nu, .int .i64 nx, .slice dA dl' dc]) 33 rfl (by kernel_rfl) (by kernel_rfl) (by kernel_rfl) (by kernel_rfl) rfl (by kernel_rfl) (by kernel_rfl) (fun W hW => load_run 64 (.tmp 6) wr.heap.size 0 [.int .i64 ow, .int .i64 nu, .int .i64 nx, .slice dA dl' dc] _ (by kernel_rfl) (by kernel_rfl) hW.1 Tryz.underlying64 rfl (by kernel_rfl) #[.int .i64 ow, .int .i64 nu, .int .i64 nx, .slice dA dl' dc] rfl) hS1 (fun _ _ _ h => h) ?_
        simp only [Act.put, List.setIfInBounds_toArray, List.set_cons_zero, List.set_cons_succ]
        refine take_d (i := 20) (.int .i64 (i : Int)) 34 rfl (by kernel_rfl) (by kernel_rfl) (by kernel_rfl) (by kernel_rfl) rfl (by kernel_rfl) (by kernel_rfl) (fun W hW => by kernel_rfl) hS1 (fun _ _ _ h => h) ?_
        simp only [Act.put, List.setIfInBounds_toArray, List.set_cons_zero, List.set_cons_succ]
        refine take_d (i := 21) (.slice (some ⟨b, off, none⟩) n c) 35 rfl (by kernel_rfl) (by kernel_rfl) (by kernel_rfl) (by kernel_rfl) rfl (by kernel_rfl) (by kernel_rfl) (fun W hW => by kernel_rfl) hS1 (fun _ _ _ h => h) ?_
        simp only [Act.put, List.setIfInBounds_toArray, List.set_cons_zero, List.set_cons_succ]
        refine take_d (i := 22) (.int .i64 (n : Int)) 36 rfl (by kernel_rfl) (by kernel_rfl) (by kernel_rfl) (by kernel_rfl) rfl (by kernel_rfl) (by kernel_rfl) (fun W hW => by kernel_rfl) hS1 (fun _ _ _ h => h) ?_
        simp only [Act.put, List.setIfInBounds_toArray, List.set_cons_zero, List.set_cons_succ]
        refine take_d (i := 23) (.int .i64 ((n : Int) - 1)) 37 rfl (by kernel_rfl) (by kernel_rfl) (by kernel_rfl) (by kernel_rfl) rfl (by kernel_rfl) (by kernel_rfl) (fun W hW => sub_run (.tmp 36) (.const (.int .i64 1)) (n : Int) 1 _ (by kernel_rfl) (by kernel_rfl) (by kernel_rfl) HE.out.1) hS1 (fun _ _ _ h => h) ?_
        simp only [Act.put, List.setIfInBounds_toArray, List.set_cons_zero, List.set_cons_succ]
        refine take_d (i := 24) (.bool la) 38 rfl (by kernel_rfl) (by kernel_rfl) (by kernel_rfl) (by kernel_rfl) rfl (by kernel_rfl) (by kernel_rfl) (fun W hW => eql_run (.tmp 34) (.tmp 37) (i : Int) ((n : Int) - 1) (by kernel_rfl) (by kernel_rfl) (by kernel_rfl) _ HE.out.2) hS1 (fun _ _ _ h => h) ?_
        simp only [Act.put, List.setIfInBounds_toArray, List.set_cons_zero, List.set_cons_succ]
        refine any_comes (i := 25) (by kernel_rfl) (op_enter 97 #[.agg #[.int .i64 ow, .int .i64 nu, .int .i64 nx, .slice dA dl' dc], .bool la] (some 39) rfl (by kernel_rfl) (by kernel_rfl) (by kernel_rfl) ((HFi.out _).mono ?_))
        rintro e w4 ⟨rfl, m4⟩
        have b4 := b1.trans (m4.mono b1.size)
        have hS4 := HR.out _ b4
        refine ⟨_, rfl, hS4, ?_⟩
        simp only [Act.put, List.setIfInBounds_toArray, List.set_cons_zero, List.set_cons_succ]
        refine take_d (i := 26) (.bool true) 40 rfl (by kernel_rfl) (by kernel_rfl) (by kernel_rfl) (by kernel_rfl) rfl (by kernel_rfl) (by kernel_rfl) (fun W hW => by kernel_rfl) hS4 (fun _ _ _ h => h) ?_
        simp only [Act.put, List.setIfInBounds_toArray, List.set_cons_zero, List.set_cons_succ]
        refine take_d (i := 27) (.bool true) 41 rfl (by kernel_rfl) (by kernel_rfl) (by kernel_rfl) (by kernel_rfl) rfl (by kernel_rfl) (by kernel_rfl) (fun W hW => by kernel_rfl) hS4 (fun _ _ _ h => h) ?_
        simp only [Act.put, List.setIfInBounds_toArray, List.set_cons_zero, List.set_cons_succ]
        refine ⟨by kernel_rfl, ?_⟩
        all_goals
          have hbf := HB.out.trans ((hB0.out _ b4).mono HB.out.size)
          go_wp2
          go_ret2
          exact ⟨none, 0, by rw [HV.out]; rfl, by rw [HV.out]; exact RB.none_ _ _, (fun _ e => by cases e), hbf⟩
      · have HE1 : Hid ((ow != o0) = false) := by show _ = _; simp; exact h1
        have HE2 : Hid ((nu != (i : Int)) = false) := by show _ = _; simp; exact h2
        rw [h3] at HFi
        have HGt : Hid (joinOk o0 n i s = true) := by show _ = _; rw [HGd.out, decide_eq_true h1, decide_eq_true h2, h3]; rfl
        clear h1 h2 h3 HOdd HGd
        go_wp2
        have b0 : Below (wr.alloc (.cells #[.int .i64 ow, .int .i64 nu, .int .i64 nx, .slice dA dl' dc] 64)).heap.size (wr.alloc (.cells #[.int .i64 ow, .int .i64 nu, .int .i64 nx, .slice dA dl' dc] 64)) (wr.alloc (.cells #[.int .i64 ow, .int .i64 nu, .int .i64 nx, .slice dA dl' dc] 64)).drew := (Below.refl _ _).drew
        have hS0 := HR.out _ b0
        refine region_T (fun W => W.rangeAt wr.heap.size 0 [.int .i64 ow, .int .i64 nu, .int .i64 nx, .slice dA dl' dc] ∧ W.cell? ⟨wr.heap.size, 0, none⟩ = some (.int .i64 ow) ∧ W.cell? ⟨wr.heap.size, 1, none⟩ = some (.int .i64 nu) ∧ W.cell? ⟨b, off, none⟩ = some (.int .i64 o0)) (fun _ => false) (by kernel_rfl) ?_
        refine any_asT rfl (listed' := #[false, false, false, false, false, false, false, false, false, false, false, false, false, false, false, false, false, false, false, false, false, false, false, false, false, false, false, false]) (by kernel_rfl) ?_
        refine take_d (i := 0) (.agg #[.int .i64 ow, .int .i64 nu, .int .i64 nx, .slice dA dl' dc]) 14 rfl (by kernel_rfl) (by kernel_rfl) (by kernel_rfl) (by kernel_rfl) rfl (by kernel_rfl) (by kernel_rfl) (fun W hW => load_run 64 (.tmp 6) wr.heap.size 0 [.int .i64 ow, .int .i64 nu, .int .i64 nx, .slice dA dl' dc] _ (by kernel_rfl) (by kernel_rfl) hW.1 Tryz.underlying64 rfl (by kernel_rfl) #[.int .i64 ow, .int .i64 nu, .int .i64 nx, .slice dA dl' dc] rfl) hS0 (fun _ _ _ h => h) ?_
        simp only [Act.put, List.setIfInBounds_toArray, List.set_cons_zero, List.set_cons_succ]
        refine any_comes (i := 1) (by kernel_rfl) (op_enter 61 #[.agg #[.int .i64 ow, .int .i64 nu, .int .i64 nx, .slice dA dl' dc]] (some 15) rfl (by kernel_rfl) (by kernel_rfl) (by kernel_rfl) ((HMy.out _).mono ?_))
        rintro e w1 ⟨rfl, m1⟩
        have b1 := b0.trans (m1.mono b0.size)
        have hS1 := HR.out _ b1
        refine ⟨_, rfl, hS1, ?_⟩
        simp only [Act.put, List.setIfInBounds_toArray, List.set_cons_zero, List.set_cons_succ]
        refine take_d (i := 2) (.bool false) 16 rfl (by kernel_rfl) (by kernel_rfl) (by kernel_rfl) (by kernel_rfl) rfl (by kernel_rfl) (by kernel_rfl) (fun W hW => by kernel_rfl) hS1 (fun _ _ _ h => h) ?_
        simp only [Act.put, List.setIfInBounds_toArray, List.set_cons_zero, List.set_cons_succ]
        refine take_d (i := 3) (.bool false) 17 rfl (by kernel_rfl) (by kernel_rfl) (by kernel_rfl) (by kernel_rfl) rfl (by kernel_rfl) (by kernel_rfl) (fun W hW => by kernel_rfl) hS1 (fun _ _ _ h => h) ?_
        simp only [Act.put, List.setIfInBounds_toArray, List.set_cons_zero, List.set_cons_succ]
        refine take_d (i := 4) (.pointer (some ⟨wr.heap.size, 0, none⟩)) 18 rfl (by kernel_rfl) (by kernel_rfl) (by kernel_rfl) (by kernel_rfl) rfl (by kernel_rfl) (by kernel_rfl) (fun W hW => by kernel_rfl) hS1 (fun _ _ _ h => h) ?_
        simp only [Act.put, List.setIfInBounds_toArray, List.set_cons_zero, List.set_cons_succ]
        refine take_d (i := 5) (.int .i64 ow) 19 rfl (by kernel_rfl) (by kernel_rfl) (by kernel_rfl) (by kernel_rfl) rfl (by kernel_rfl) (by kernel_rfl) (fun W hW => cell_run 3 (.tmp 18) ⟨wr.heap.size, 0, none⟩ (.int .i64 ow) _ (by kernel_rfl) (by kernel_rfl) hW.2.1 Tryz.underlying3 rfl (by kernel_rfl)) hS1 (fun _ _ _ h => h) ?_
        simp only [Act.put, List.setIfInBounds_toArray, List.set_cons_zero, List.set_cons_succ]
        refine take_d (i := 6) (.slice (some ⟨b, off, none⟩) n c) 20 rfl (by kernel_rfl) (by kernel_rfl) (by kernel_rfl) (by kernel_rfl) rfl (by kernel_rfl) (by kernel_rfl) (fun W hW => by kernel_rfl) hS1 (fun _ _ _ h => h) ?_
        simp only [Act.put, List.setIfInBounds_toArray, List.set_cons_zero, List.set_cons_succ]
        refine take_d (i := 7) (.pointer (some ⟨b, off, none⟩)) 21 rfl (by kernel_rfl) (by kernel_rfl) (by kernel_rfl) (by kernel_rfl) rfl (by kernel_rfl) (by kernel_rfl) (fun W hW => cidx_first b off n c (.tmp 20) (.const (.int .i64 0)) (by kernel_rfl) (by kernel_rfl) (by kernel_rfl) h0) hS1 (fun _ _ _ h => h) ?_
        simp only [Act.put, List.setIfInBounds_toArray, List.set_cons_zero, List.set_cons_succ]
        refine take_d (i := 8) (.pointer (some ⟨b, off, none⟩)) 22 rfl (by kernel_rfl) (by kernel_rfl) (by kernel_rfl) (by kernel_rfl) rfl (by kernel_rfl) (by kernel_rfl) (fun W hW => by kernel_rfl) hS1 (fun _ _ _ h => h) ?_
        simp only [Act.put, List.setIfInBounds_toArray, List.set_cons_zero, List.set_cons_succ]
        refine take_d (i := 9) (.int .i64 o0) 23 rfl (by kernel_rfl) (by kernel_rfl) (by kernel_rfl) (by kernel_rfl) rfl (by kernel_rfl) (by kernel_rfl) (fun W hW => cell_run 3 (.tmp 22) ⟨b, off, none⟩ (.int .i64 o0) _ (by kernel_rfl) (by kernel_rfl) hW.2.2.2 Tryz.underlying3 rfl (by kernel_rfl)) hS1 (fun _ _ _ h => h) ?_
        simp only [Act.put, List.setIfInBounds_toArray, List.set_cons_zero, List.set_cons_succ]
        refine take_d (i := 10) (.bool false) 24 rfl (by kernel_rfl) (by kernel_rfl) (by kernel_rfl) (by kernel_rfl) rfl (by kernel_rfl) (by kernel_rfl) (fun W hW => neq_run (.tmp 19) (.tmp 23) ow o0 (by kernel_rfl) (by kernel_rfl) (by kernel_rfl) _ HE1.out) hS1 (fun _ _ _ h => h) ?_
        simp only [Act.put, List.setIfInBounds_toArray, List.set_cons_zero, List.set_cons_succ]
        refine take_d (i := 11) (.bool false) 25 rfl (by kernel_rfl) (by kernel_rfl) (by kernel_rfl) (by kernel_rfl) rfl (by kernel_rfl) (by kernel_rfl) (fun W hW => by kernel_rfl) hS1 (fun _ _ _ h => h) ?_
        simp only [Act.put, List.setIfInBounds_toArray, List.set_cons_zero, List.set_cons_succ]
        refine take_d (i := 12) (.bool false) 26 rfl (by kernel_rfl) (by kernel_rfl) (by kernel_rfl) (by kernel_rfl) rfl (by kernel_rfl) (by kernel_rfl) (fun W hW => by kernel_rfl) hS1 (fun _ _ _ h => h) ?_
        simp only [Act.put, List.setIfInBounds_toArray, List.set_cons_zero, List.set_cons_succ]
        refine take_d (i := 13) (.pointer (some ⟨wr.heap.size, 1, none⟩)) 27 rfl (by kernel_rfl) (by kernel_rfl) (by kernel_rfl) (by kernel_rfl) rfl (by kernel_rfl) (by kernel_rfl) (fun W hW => by kernel_rfl) hS1 (fun _ _ _ h => h) ?_
        simp only [Act.put, List.setIfInBounds_toArray, List.set_cons_zero, List.set_cons_succ]
        refine take_d (i := 14) (.int .i64 nu) 28 rfl (by kernel_rfl) (by kernel_rfl) (by kernel_rfl) (by kernel_rfl) rfl (by kernel_rfl) (by kernel_rfl) (fun W hW => cell_run 3 (.tmp 27) ⟨wr.heap.size, 1, none⟩ (.int .i64 nu) _ (by kernel_rfl) (by kernel_rfl) hW.2.2.1 Tryz.underlying3 rfl (by kernel_rfl)) hS1 (fun _ _ _ h => h) ?_
        simp only [Act.put, List.setIfInBounds_toArray, List.set_cons_zero, List.set_cons_succ]
        refine take_d (i := 15) (.int .i64 (i : Int)) 29 rfl (by kernel_rfl) (by kernel_rfl) (by kernel_rfl) (by kernel_rfl) rfl (by kernel_rfl) (by kernel_rfl) (fun W hW => by kernel_rfl) hS1 (fun _ _ _ h => h) ?_
        simp only [Act.put, List.setIfInBounds_toArray, List.set_cons_zero, List.set_cons_succ]
        refine take_d (i := 16) (.bool false) 30 rfl (by kernel_rfl) (by kernel_rfl) (by kernel_rfl) (by kernel_rfl) rfl (by kernel_rfl) (by kernel_rfl) (fun W hW => neq_run (.tmp 28) (.tmp 29) nu (i : Int) (by kernel_rfl) (by kernel_rfl) (by kernel_rfl) _ HE2.out) hS1 (fun _ _ _ h => h) ?_
        simp only [Act.put, List.setIfInBounds_toArray, List.set_cons_zero, List.set_cons_succ]
        refine take_d (i := 17) (.bool false) 31 rfl (by kernel_rfl) (by kernel_rfl) (by kernel_rfl) (by kernel_rfl) rfl (by kernel_rfl) (by kernel_rfl) (fun W hW => by kernel_rfl) hS1 (fun _ _ _ h => h) ?_
        simp only [Act.put, List.setIfInBounds_toArray, List.set_cons_zero, List.set_cons_succ]
        refine take_d (i := 18) (.bool false) 32 rfl (by kernel_rfl) (by kernel_rfl) (by kernel_rfl) (by kernel_rfl) rfl (by kernel_rfl) (by kernel_rfl) (fun W hW => by kernel_rfl) hS1 (fun _ _ _ h => h) ?_
        simp only [Act.put, List.setIfInBounds_toArray, List.set_cons_zero, List.set_cons_succ]
        refine take_d (i := 19) (.agg #[.int .i64 ow, .int .i64 nu, .int .i64 nx, .slice dA dl' dc]) 33 rfl (by kernel_rfl) (by kernel_rfl) (by kernel_rfl) (by kernel_rfl) rfl (by kernel_rfl) (by kernel_rfl) (fun W hW => load_run 64 (.tmp 6) wr.heap.size 0 [.int .i64 ow, .int .i64 nu, .int .i64 nx, .slice dA dl' dc] _ (by kernel_rfl) (by kernel_rfl) hW.1 Tryz.underlying64 rfl (by kernel_rfl) #[.int .i64 ow, .int .i64 nu, .int .i64 nx, .slice dA dl' dc] rfl) hS1 (fun _ _ _ h => h) ?_
        simp only [Act.put, List.setIfInBounds_toArray, List.set_cons_zero, List.set_cons_succ]
        refine take_d (i := 20) (.int .i64 (i : Int)) 34 rfl (by kernel_rfl) (by kernel_rfl) (by kernel_rfl) (by kernel_rfl) rfl (by kernel_rfl) (by kernel_rfl) (fun W hW => by kernel_rfl) hS1 (fun _ _ _ h => h) ?_
        simp only [Act.put, List.setIfInBounds_toArray, List.set_cons_zero, List.set_cons_succ]
        refine take_d (i := 21) (.slice (some ⟨b, off, none⟩) n c) 35 rfl (by kernel_rfl) (by kernel_rfl) (by kernel_rfl) (by kernel_rfl) rfl (by kernel_rfl) (by kernel_rfl) (fun W hW => by kernel_rfl) hS1 (fun _ _ _ h => h) ?_
        simp only [Act.put, List.setIfInBounds_toArray, List.set_cons_zero, List.set_cons_succ]
        refine take_d (i := 22) (.int .i64 (n : Int)) 36 rfl (by kernel_rfl) (by kernel_rfl) (by kernel_rfl) (by kernel_rfl) rfl (by kernel_rfl) (by kernel_rfl) (fun W hW => by kernel_rfl) hS1 (fun _ _ _ h => h) ?_
        simp only [Act.put, List.setIfInBounds_toArray, List.set_cons_zero, List.set_cons_succ]
        refine take_d (i := 23) (.int .i64 ((n : Int) - 1)) 37 rfl (by kernel_rfl) (by kernel_rfl) (by kernel_rfl) (by kernel_rfl) rfl (by kernel_rfl) (by kernel_rfl) (fun W hW => sub_run (.tmp 36) (.const (.int .i64 1)) (n : Int) 1 _ (by kernel_rfl) (by kernel_rfl) (by kernel_rfl) HE.out.1) hS1 (fun _ _ _ h => h) ?_
        simp only [Act.put, List.setIfInBounds_toArray, List.set_cons_zero, List.set_cons_succ]
        refine take_d (i := 24) (.bool la) 38 rfl (by kernel_rfl) (by kernel_rfl) (by kernel_rfl) (by kernel_rfl) rfl (by kernel_rfl) (by kernel_rfl) (fun W hW => eql_run (.tmp 34) (.tmp 37) (i : Int) ((n : Int) - 1) (by kernel_rfl) (by kernel_rfl) (by kernel_rfl) _ HE.out.2) hS1 (fun _ _ _ h => h) ?_
        simp only [Act.put, List.setIfInBounds_toArray, List.set_cons_zero, List.set_cons_succ]
        refine any_comes (i := 25) (by kernel_rfl) (op_enter 97 #[.agg #[.int .i64 ow, .int .i64 nu, .int .i64 nx, .slice dA dl' dc], .bool la] (some 39) rfl (by kernel_rfl) (by kernel_rfl) (by kernel_rfl) ((HFi.out _).mono ?_))
        rintro e w4 ⟨rfl, m4⟩
        have b4 := b1.trans (m4.mono b1.size)
        have hS4 := HR.out _ b4
        refine ⟨_, rfl, hS4, ?_⟩
        simp only [Act.put, List.setIfInBounds_toArray, List.set_cons_zero, List.set_cons_succ]
        refine take_d (i := 26) (.bool false) 40 rfl (by kernel_rfl) (by kernel_rfl) (by kernel_rfl) (by kernel_rfl) rfl (by kernel_rfl) (by kernel_rfl) (fun W hW => by kernel_rfl) hS4 (fun _ _ _ h => h) ?_
        simp only [Act.put, List.setIfInBounds_toArray, List.set_cons_zero, List.set_cons_succ]
        refine take_d (i := 27) (.bool false) 41 rfl (by kernel_rfl) (by kernel_rfl) (by kernel_rfl) (by kernel_rfl) rfl (by kernel_rfl) (by kernel_rfl) (fun W hW => by kernel_rfl) hS4 (fun _ _ _ h => h) ?_
        simp only [Act.put, List.setIfInBounds_toArray, List.set_cons_zero, List.set_cons_succ]
        refine ⟨by kernel_rfl, ?_⟩
        all_goals
          have hbf := HB.out.trans ((hB0.out _ b4).mono HB.out.size)
          have ho4 := own_kept HO.out (hB0.out _ b4)
          have r4 := HRA.out _ hbf
          obtain ⟨t0, t1, t2, t3, -⟩ := HC.out _ b4
          go_wp2_with (at_builtin; refine wpList_append_any _ rfl (.tmp 42) (.tmp 44) 39 rfl w.heap.size 5 i0 _ 1 1 Tryz.underlying39 hi0 hz0 hz1 hz2 rfl (by omega) (.slice A q k) q (cells P) rfl ho4 w4.heap.size dA dl' dc (cells s.data) rfl r4 (cells_one _) (by have := HDl.out; simp only [maxLen]; omega) (by have := HDl.out; omega) hbf.size ?_; intro v5 w5 ho5 hg5 hat5)
          obtain ⟨A5, c5, rfl⟩ := own_form ho5
          have b5 := hbf.grown hg5 hbf.size (fun j hj => (ho4.lt j hj).1)
          have hP5 : q + dl' = (P ++ s.data).length ∧ P ++ s.data = ((x :: r).take (i + 1)).flatMap (·.data) ∧ ∀ j (hj : j < (x :: r).length), j < i + 1 → joinOk o0 n j (x :: r)[j] = true := by
            obtain ⟨g1, g2, g3⟩ := HP.out
            refine ⟨by rw [List.length_append, HSd.out.1, g1], ?_, fun j hj hji => ?_⟩
            · rw [List.take_succ_eq_append_getElem hil, List.flatMap_append, g2, ← HSd.out.2]
              simp
            · by_cases hj1 : j < i
              · exact g3 j hj hj1
              · obtain rfl : j = i := by omega
                rw [← HSd.out.2]
                exact HGt.out
          have ho5' : Hid (w5.ownsRow w.heap.size 5 1 (.slice A5 (q + dl') c5) (q + dl') (cells (P ++ s.data))) := by rw [cells_append]; exact ho5
          have hq5 : q + dl' ≤ 242 * (i + 1) := by have := HDl.out; omega
          clear ho5 hg5 hat5 ho4 r4 t0 t1 t2 t3 hS0 hS1
          refine ⟨⟨i + 1, by omega, by go_num, A5, q + dl', c5, rfl, hq5, P ++ s.data, hP5, ho5', b5⟩, ?_⟩
          simp [intOf]; omega
    · obtain rfl : i = n := by omega
      have dl : decide ((i : Int) < (i : Int)) = false := decide_eq_false (by omega)
      have d5 : decide ((0 : Int) < (i : Int)) = true := decide_eq_true (by omega)
      have d6 : decide ((i : Int) > 0) = true := decide_eq_true (by omega)
      have hV : joinC (x :: r) = some ((x :: r).flatMap (·.data)) := cjoin_good fun j hj => by
        have h9 := HP.out.2.2 j hj (by rw [HN.out]; exact hj)
        have h8 := HN.out
        rw [h8, HK.out] at h9
        exact h9
      have hP : P = (x :: r).flatMap (·.data) := by
        rw [HP.out.2.1, List.take_of_length_le (by rw [← HN.out]; exact Nat.le_refl _)]
      have HG : Hid (GivesJN (joinC (x :: r)) w (.returned (.tuple #[.slice A q k, .bool true])) wr) := by
        refine ⟨A, k, ?_, ?_, own_new9 HO.out, HB.out⟩
        · rw [hV, ← hP, HP.out.1]; rfl
        · rw [hV, ← hP]
          have := HO.out
          rw [HP.out.1] at this
          exact own_rb this
      clear hV hP HP HO HB
      go_wp2
      go_ret2
      exact HG.out
theorem cjoin_lies (l : List Ce) (A : Option Addr) (c : Nat) (w : World) (hS : CL w w.heap.size A l) (hl : l.length ≤ 2000) (hm : ∀ x ∈ l, x.may = true) :
    Calls Tryz.prog 79 #[.slice A l.length c] w (GivesJN (joinC l) w) := by
  by_cases h : l.length = 0
  · obtain rfl : l = [] := List.eq_nil_of_length_eq_zero h
    exact cjoin_nil A c w
  · obtain ⟨b, off, rfl, _, _⟩ := hS (by omega)
    exact cjoin_some l _ b off c w rfl (by omega) hS hl hm
end Go.Proofs.YtonnkibcnhjelaaGreatDoor
