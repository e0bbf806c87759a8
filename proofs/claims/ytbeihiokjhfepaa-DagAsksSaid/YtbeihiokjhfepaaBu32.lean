/- Lemmas under the proofs of this place: DagMake. No statement is proved here. -/
import Derived.Test.YtbeihiokjhfepaaBu31
import Derived.Test.YtbeihiokjhfepaaBu12
set_option linter.unusedSimpArgs false
set_option linter.unusedVariables false
set_option maxRecDepth 100000
set_option maxHeartbeats 16000000
namespace Go.Proofs.Ytbeihiokjhfepaa
open Go.RowKit
structure MkS (w0 w W : World) (R3 R5 p : Nat) (F : Nat → Prop) (A : Option Addr) (n c : Nat) (g : Gr) : Prop where
  dh : DH w0 W p F g
  rh : RH w0 W F A n g
  xv : Blk W R5 27 #[.slice A n c]
  res : Blk W R3 27 #[.slice none 0 0]
  f3 : ¬ F R3
  f5 : ¬ F R5
  ne : R3 ≠ R5
  b3 : w0.heap.size ≤ R3
  b5 : w0.heap.size ≤ R5
section
variable {w0 w W W' : World} {R3 R5 p : Nat} {F F' : Nat → Prop} {A : Option Addr} {n c : Nat} {g g' : Gr}
theorem MkS.up (h : MkS w0 w W R3 R5 p F A n c g) (hb : Below W.heap.size W W') : MkS w0 w W' R3 R5 p F A n c g :=
  ⟨h.dh.up hb, h.rh.up h.dh.below.size hb, h.xv.below hb h.xv.lt, h.res.below hb h.res.lt, h.f3, h.f5, h.ne, h.b3, h.b5⟩
structure MkT (w0 w W : World) (R3 R5 p : Nat) (F : Nat → Prop) (A : Option Addr) (n c : Nat) (g g' : Gr) : Prop where
  dh : DH w0 W p F g'
  rh : RH w0 W F A n g
  xv : Blk W R5 27 #[.slice A n c]
  res : Blk W R3 27 #[.slice none 0 0]
  f3 : ¬ F R3
  f5 : ¬ F R5
  ne : R3 ≠ R5
  b3 : w0.heap.size ≤ R3
  b5 : w0.heap.size ≤ R5
theorem not_foot16 {E E' : Nat → Prop} {k : Nat} (ht : Turns W W' E E') (hk : k < W.heap.size) (hn : ¬ E k) : ¬ E' k := fun h => by
  rcases ht.foot k h with h1 | h1
  · exact hn h1
  · omega
theorem MkS.turned (h : MkS w0 w W R3 R5 p F A n c g) (hp : PDagN W W' p F' g') (ht : Turns W W' F F') : MkT w0 w W' R3 R5 p F' A n c g g' :=
  ⟨h.dh.turned hp ht, h.rh.turned ht (fun _ h => h) (fun _ h => .inr h) h.dh.own h.dh.below.size, h.xv.turns ht h.f5, h.res.turns ht h.f3, not_foot16 ht h.res.lt h.f3, not_foot16 ht h.xv.lt h.f5, h.ne, h.b3, h.b5⟩
theorem MkT.up (h : MkT w0 w W R3 R5 p F A n c g g') (hb : Below W.heap.size W W') : MkT w0 w W' R3 R5 p F A n c g g' :=
  ⟨h.dh.up hb, h.rh.up h.dh.below.size hb, h.xv.below hb h.xv.lt, h.res.below hb h.res.lt, h.f3, h.f5, h.ne, h.b3, h.b5⟩
theorem RH.set_ {E : Nat → Prop} {R : Nat} {v : Value} (h : RH w0 W E A n g) (K : Blk W R 27 #[v]) (hR : w0.heap.size ≤ R) (hw : w0.heap.size ≤ W.heap.size) (u : Value) : RH w0 (W.setCell ⟨R, 0, none⟩ u) E A n g := by
  have ht : Turns W (W.setCell ⟨R, 0, none⟩ u) (fun k => k = R) (fun k => k = R) := Turns.set_ (F := fun k => k = R) (g := R) rfl 0 _
  have hbb : Below w0.heap.size W (W.setCell ⟨R, 0, none⟩ u) := ht.below (fun k e => by rw [e]; exact hR) hw
  obtain ⟨r, q1, q2, q3⟩ := h.row
  have hfar : ∀ ad, A = some ad → ¬ E ad.block ∧ ad.block < (W.setCell ⟨R, 0, none⟩ u).heap.size := fun ad e => ⟨(h.far ad e).1, by have := (h.far ad e).2; simpa [World.setCell] using this⟩
  by_cases h0 : 0 < n
  · obtain ⟨ad, e, q4, q5⟩ := q2.2 h0
    have hne : ad.block ≠ R := fun e2 => by
      have hc := q5 0 (.string (text (r.getD 0 (nd0, none, 0)).1.id)) (by
        have hl : r.length = n := by rw [h.len, ← q1, List.length_map]
        have h2 := (rowN_get r 0 (by omega)).1
        rw [Nat.zero_mul] at h2
        rw [h2, List.getD, List.getElem?_eq_getElem (by omega)]
        rfl)
      have hc1 := q5 1 (.slice (r.getD 0 (nd0, none, 0)).2.1 (r.getD 0 (nd0, none, 0)).1.preds.length (r.getD 0 (nd0, none, 0)).2.2) (by
        have hl : r.length = n := by rw [h.len, ← q1, List.length_map]
        have h2 := (rowN_get r 0 (by omega)).2
        rw [Nat.zero_mul, Nat.zero_add] at h2
        rw [h2, List.getD, List.getElem?_eq_getElem (by omega)]
        rfl)
      have e0 : (ad.add 0) = ad := by cases ad; simp [Addr.add]
      rw [e0] at hc
      obtain ⟨ab, ao, ap⟩ := ad
      have hp : ap = none := World.cell?_spot hc
      subst hp
      rw [addD] at hc1
      simp only at e2
      subst e2
      rw [K.cell] at hc1
      simp at hc1
    refine ⟨⟨r, q1, ⟨q2.1, fun _ => ⟨ad, e, by simpa [World.setCell] using q4, fun j u' hu => ?_⟩⟩, q3.below hbb⟩, h.len, hfar⟩
    rw [World.cell?_setCell_far _ ⟨R, 0, none⟩ _ _ (by rw [block_of_add]; exact hne.symm)]
    exact q5 j u' hu
  · exact ⟨⟨r, q1, ⟨q2.1, fun h2 => absurd h2 h0⟩, q3.below hbb⟩, h.len, hfar⟩
theorem MkT.store {A' : Option Addr} {n' c' : Nat} (h : MkT w0 w W R3 R5 p F A n c g g') (hb : Below W.heap.size W W') (hr : RH w0 W' F A' n' g') : MkS w0 w (W'.setCell ⟨R5, 0, none⟩ (.slice A' n' c')) R3 R5 p F A' n' c' g' := by
  have h1 := h.up hb
  have ht : Turns W' (W'.setCell ⟨R5, 0, none⟩ (.slice A' n' c')) (fun k => k = R5) (fun k => k = R5) := Turns.set_ (F := fun k => k = R5) (g := R5) rfl 0 _
  have hd : DH w0 (W'.setCell ⟨R5, 0, none⟩ (.slice A' n' c')) p F g' := h1.dh.other ht (fun k hk e => h.f5 (by rw [← e]; exact hk)) (fun k hk => h1.dh.dag.gp_ne h1.xv hk) (fun k e => by rw [e]; exact h.b5)
  exact ⟨hd, hr.set_ h1.xv h.b5 h1.dh.below.size _, h1.xv.set_ 0 (.slice A' n' c'), Blk.far h1.res (by show R3 ≠ R5; exact h.ne) _, h.f3, h.f5, h.ne, h.b3, h.b5⟩
theorem MkS.out (h : MkS w0 w W R3 R5 p F A n c g) (v : Value) : DH w0 (W.setCell ⟨R3, 0, none⟩ v) p F g ∧ RH w0 (W.setCell ⟨R3, 0, none⟩ v) F A n g ∧ (W.setCell ⟨R3, 0, none⟩ v).cell? ⟨R3, 0, none⟩ = some v := by
  have ht : Turns W (W.setCell ⟨R3, 0, none⟩ v) (fun k => k = R3) (fun k => k = R3) := Turns.set_ (F := fun k => k = R3) (g := R3) rfl 0 _
  exact ⟨h.dh.other ht (fun k hk e => h.f3 (by rw [← e]; exact hk)) (fun k hk => h.dh.dag.gp_ne h.res hk) (fun k e => by rw [e]; exact h.b3), h.rh.set_ h.res h.b3 h.dh.below.size _, (h.res.set_ 0 v).cell 0⟩
end
def GivesMake (w0 : World) (g : Gr) (e : Ending) (w' : World) : Prop := ∃ (p : Nat) (F : Nat → Prop) (A : Option Addr) (n c : Nat), e = .returned (.tuple #[.pointer (some ⟨p, 0, none⟩), .agg #[.slice A n c]]) ∧ Hid (DH w0 w' p F g) ∧ Hid (RH w0 w' F A n g)
theorem Try.dagZero (w : World) : Sem.run Try.prog (Instr.build 27 #[]) w = .ok (.agg #[.slice none 0 0]) w := by kernel_rfl
theorem make_any {w0 w : World} (hb0 : Below w0.heap.size w0 w) (l : Gr) (A : Option Addr) (n c : Nat) (hn : n = l.length) (h : NL w0 w0.heap.size A l) (hf : fewG l) :
    Calls Try.prog 14 #[.slice A n c] w (GivesMake w0 (makeG l)) := by
  have HL : Hid (0 < l.length → ∃ b off, A = some ⟨b, off, none⟩ ∧ b < w0.heap.size ∧ ∀ i, i < l.length → ∃ pA pc, SS w0 w0.heap.size pA (l.getD i nd0).preds ∧ ((l.getD i nd0).preds.length ≤ pc ∧ pc ≤ 9223372036854775807) ∧ w0.cell? ⟨b, off + i * 2, none⟩ = some (.string (text (l.getD i nd0).id)) ∧ w0.cell? ⟨b, off + i * 2 + 1, none⟩ = some (.slice pA (l.getD i nd0).preds.length pc)) := fun hh => h.at_ hh
  have HN := Lib.hid hn
  have HFw := Lib.hid hf
  have HM : Hid (makeK l n = makeG l) := by show _ = _; rw [hn]; rfl
  obtain ⟨PG, hPG⟩ : ∃ P, P = GivesMake w0 (makeG l) := ⟨_, rfl⟩
  have HG : Hid (∀ {e : Ending} {w' : World} (p : Nat) (F : Nat → Prop) (A : Option Addr) (n c : Nat), e = .returned (.tuple #[.pointer (some ⟨p, 0, none⟩), .agg #[.slice A n c]]) → DH w0 w' p F (makeG l) → RH w0 w' F A n (makeG l) → PG e w') := fun p F A n c h1 h2 h3 => by
    rw [hPG]
    exact ⟨p, F, A, n, c, h1, h2, h3⟩
  rw [← hPG]
  have hn30 : n ≤ 30 := by rw [hn]; exact hf.1
  have HB0 := Lib.hid hb0
  clear hPG hn h hf hb0
  have a27 := fun w' => Try.dagAgg w'
  have s27 := fun w' => Try.dagSize w'
  have nbz := fun w' => Try.dagZero w'
  have HEm : Hid (∀ W, Calls Try.prog 8 #[] W fun e w' => ∃ (p : Nat) (F : Nat → Prop), e = .returned (.pointer (some ⟨p, 0, none⟩)) ∧ Hid (PDag w' p F []) ∧ Hid (∀ k, F k → W.heap.size ≤ k) ∧ Hid (Below W.heap.size W w')) := fun W => dagempty_any W
  have K3 := Lib.hid (Blk.new w 27 #[.slice none 0 0])
  have B3 := Lib.hid (show Below w.heap.size w (w.alloc (.cells #[.slice none 0 0] 27)) from (Below.refl _ _).alloc (Nat.le_refl _) _)
  go_enter Try.func14, Try.ntmps14
  go_upto_region 2 with (go_at_call 8; (with_reducible refine (HEm.out _).mono ?_); rintro e w1 ⟨p, F, rfl, hP1, hF1, hb1⟩)
  have hsz : (w.alloc (.cells #[.slice none 0 0] 27)).heap.size = w.heap.size + 1 := by simp
  have hs1 := hb1.out.size
  rw [hsz] at hs1
  have hF2 := hF1.out
  rw [hsz] at hF2
  have hw0 := HB0.out.size
  have hB1 : Below w0.heap.size w0 w1 := (HB0.out.trans (B3.out.mono hw0)).trans (hb1.out.mono (by rw [hsz]; omega))
  have n1 : Below w1.heap.size w1 (w1.alloc (.cells #[.slice none 0 0] 27)) := (Below.refl _ _).alloc (Nat.le_refl _) _
  have hS0 : Hid (MkS w0 w (w1.alloc (.cells #[.slice none 0 0] 27)) w.heap.size w1.heap.size p F none 0 0 []) := by
    refine ⟨⟨hP1.out.below n1, fun k hk => by have := hF2 k hk; omega, hB1.trans (n1.mono hB1.size)⟩, RH.nil _ _ _, Blk.new _ _ _, (K3.out.below hb1.out K3.out.lt).alloc _, fun hk => by have := hF2 _ hk; omega, fun hk => ?_, by omega, hw0, by omega⟩
    have := hP1.out.flt _ hk
    omega
  obtain ⟨R3, hR3⟩ : ∃ x, x = w.heap.size := ⟨_, rfl⟩
  obtain ⟨R5, hR5⟩ : ∃ x, x = w1.heap.size := ⟨_, rfl⟩
  obtain ⟨wm, hwm⟩ : ∃ x, x = w1.alloc (.cells #[.slice none 0 0] 27) := ⟨_, rfl⟩
  rw [← hwm, ← hR5, ← hR3] at hS0 ⊢
  clear hwm hR5 hR3 n1 hB1 hw0 hF2 hs1 hsz hP1 hF1 hb1 K3 B3 HEm
  go_wp2
  go_loopw [6] (fun v wr => ∃ (k : Nat) (F : Nat → Prop) (A' : Option Addr) (n' c' : Nat), k ≤ n ∧ v = .int .i64 (k : Int) ∧ Hid (MkS w0 w wr R3 R5 p F A' n' c' (makeK l k))) (fun v _ => n - (intOf v).toNat)
  case atStart => exact ⟨0, F, none, 0, 0, Nat.zero_le _, rfl, hS0.out⟩
  case round =>
    obtain ⟨k, F, A', n', c', hk, rfl, hS⟩ := hrel
    clear hS0
    by_cases hlt : k < n
    · have d0 : decide ((k : Int) < (n : Int)) = true := decide_eq_true (by omega)
      have hkl : k < l.length := by have := HN.out; omega
      obtain ⟨b, off, rfl, hb, hc⟩ := HL.out (by omega)
      obtain ⟨pA, pc, hs, hcap, hc0, hc1⟩ := hc k hkl
      obtain ⟨f1, f2, f3⟩ := HFw.out.2 k hkl
      have hMk : makeK l (k + 1) = (addG (makeK l k) (l.getD k nd0).id (l.getD k nd0).preds).1 := rfl
      obtain ⟨x, hx⟩ : ∃ x, x = (l.getD k nd0).id := ⟨_, rfl⟩
      obtain ⟨ps, hps⟩ : ∃ x, x = (l.getD k nd0).preds := ⟨_, rfl⟩
      rw [← hx] at hc0 f1 hMk
      rw [← hps] at hs hcap hc1 f2 hMk
      obtain ⟨t, ht⟩ : ∃ t, t = text x := ⟨_, rfl⟩
      obtain ⟨m, hm⟩ : ∃ m, m = ps.length := ⟨_, rfl⟩
      rw [← ht] at hc0
      rw [← hm] at hc1 hcap f2
      have HSt : Hid (∀ W, Below w0.heap.size w0 W → W.cell? ⟨b, off + k * 2, none⟩ = some (.string t) ∧ W.cell? ⟨b, off + k * 2 + 1, none⟩ = some (.slice pA m pc)) := fun W hW => ⟨(hW.cell (p := ⟨b, off + k * 2, none⟩) hb).trans hc0, (hW.cell (p := ⟨b, off + k * 2 + 1, none⟩) hb).trans hc1⟩
      obtain ⟨g, hg⟩ : ∃ g, g = makeK l k := ⟨_, rfl⟩
      have hok : GrOk g := by rw [hg]; exact makeK_ok l k
      have hgl : g.length ≤ 1000 := by have := makeK_len l k; rw [hg]; omega
      rw [← hg] at hMk hS
      have HAdd : Hid (∀ (W : World), MkS w0 w W R3 R5 p F A' n' c' g → Calls Try.prog 12 #[.pointer (some ⟨p, 0, none⟩), .string t, .slice pA m pc] W fun e w' => ∃ (y : Int) (F' : Nat → Prop), e = .returned (.int .i64 y) ∧ Hid (MkT w0 w w' R3 R5 p F' A' n' c' g (addG g x ps).1) ∧ Hid (Below w0.heap.size w0 w')) := fun W hW => by
        rw [ht]
        refine (dagadd_any hW.dh.dag hok hgl x ps pA m pc (by omega) hm ((hs.below hW.dh.below).more hW.dh.below.size) (fun h0 ad e hf => ?_) (by omega) hcap.1 hcap.2).mono fun e w' hh => ?_
        · obtain ⟨pb, po, e2, h2, -⟩ := hs.at_ (by omega)
          rw [e2] at e
          injection e with e
          have h3 := hW.dh.own _ hf
          rw [← e] at h3
          have h3 : w0.heap.size ≤ pb := h3
          omega
        · obtain ⟨q1, F', q2, q3⟩ := hh
          have h4 := hW.turned q2.out q3.out
          exact ⟨_, F', q1, h4, h4.dh.below⟩
      have HRA : Hid (∀ (W : World) (F' : Nat → Prop), MkT w0 w W R3 R5 p F' A' n' c' g (addG g x ps).1 → Calls Try.prog 11 #[.agg #[.slice A' n' c'], .string t, .slice pA m pc] W fun e w' => ∃ (A2 : Option Addr) (n2 c2 : Nat) (y : Int), e = .returned (.tuple #[.agg #[.slice A2 n2 c2], .int .i64 y]) ∧ Hid (RH w0 w' F' A2 n2 (addG g x ps).1) ∧ Hid (Below W.heap.size W w')) := fun W F' hW => by
        rw [ht]
        refine (radds_any hW.rh hW.dh.below hW.dh.flt hgl c' x ps pA m pc hm hs (by omega) hcap.1 hcap.2).mono fun e w' hh => ?_
        obtain ⟨A2, n2, c2, q1, q2, q3⟩ := hh
        exact ⟨A2, n2, c2, _, q1, q2, q3⟩
      have HMk := Lib.hid hMk
      clear hx hps ht hm hs hcap hc0 hc1 hc hb hkl f1 f2 f3 hMk hg hok hgl
      go_wp2
      have P0 : MkS w0 w wr.drew R3 R5 p F A' n' c' g := hS.out.up ⟨rfl, rfl, rfl, Nat.le_refl _, fun _ _ => rfl⟩
      have S0 : Below w0.heap.size w0 wr.drew := P0.dh.below
      refine region_T (fun W => Below w0.heap.size w0 W) (fun j => decide (12 ≤ j)) (by kernel_rfl) ?_
      refine any_asT rfl (listed' := #[false, false, false, false, false, false, false, false, false, false, false, false]) (by kernel_rfl) ?_
      refine take_d (i := 0) (.pointer (some ⟨p, 0, none⟩)) 15 rfl (by kernel_rfl) (by kernel_rfl) (by kernel_rfl) (by kernel_rfl) rfl (by kernel_rfl) (by kernel_rfl) (fun W hW => by kernel_rfl) S0 (fun _ _ _ h => h) ?_
      simp only [Act.put, List.setIfInBounds_toArray, List.set_cons_zero, List.set_cons_succ]
      refine take_d (i := 1) (.slice (some ⟨b, off, none⟩) n c) 16 rfl (by kernel_rfl) (by kernel_rfl) (by kernel_rfl) (by kernel_rfl) rfl (by kernel_rfl) (by kernel_rfl) (fun W hW => by kernel_rfl) S0 (fun _ _ _ h => h) ?_
      simp only [Act.put, List.setIfInBounds_toArray, List.set_cons_zero, List.set_cons_succ]
      refine take_d (i := 2) (.int .i64 (k : Int)) 17 rfl (by kernel_rfl) (by kernel_rfl) (by kernel_rfl) (by kernel_rfl) rfl (by kernel_rfl) (by kernel_rfl) (fun W hW => by kernel_rfl) S0 (fun _ _ _ h => h) ?_
      simp only [Act.put, List.setIfInBounds_toArray, List.set_cons_zero, List.set_cons_succ]
      refine take_d (i := 3) (.pointer (some ⟨b, off + k * 2, none⟩)) 18 rfl (by kernel_rfl) (by kernel_rfl) (by kernel_rfl) (by kernel_rfl) rfl (by kernel_rfl) (by kernel_rfl) (fun W hW => nidx_run (.tmp 16) (.tmp 17) b off n c k (by kernel_rfl) (by kernel_rfl) (by kernel_rfl) hlt) S0 (fun _ _ _ h => h) ?_
      simp only [Act.put, List.setIfInBounds_toArray, List.set_cons_zero, List.set_cons_succ]
      refine take_d (i := 4) (.pointer (some ⟨b, off + k * 2, none⟩)) 19 rfl (by kernel_rfl) (by kernel_rfl) (by kernel_rfl) (by kernel_rfl) rfl (by kernel_rfl) (by kernel_rfl) (fun W hW => nfld0_run (.tmp 18) b (off + k * 2) (by kernel_rfl) (by kernel_rfl)) S0 (fun _ _ _ h => h) ?_
      simp only [Act.put, List.setIfInBounds_toArray, List.set_cons_zero, List.set_cons_succ]
      refine take_d (i := 5) (.string t) 20 rfl (by kernel_rfl) (by kernel_rfl) (by kernel_rfl) (by kernel_rfl) rfl (by kernel_rfl) (by kernel_rfl) (fun W hW => cell_run 9 (.tmp 19) ⟨b, off + k * 2, none⟩ (.string t) _ (by kernel_rfl) (by kernel_rfl) (HSt.out W hW).1 Try.underlying9 rfl (by kernel_rfl)) S0 (fun _ _ _ h => h) ?_
      simp only [Act.put, List.setIfInBounds_toArray, List.set_cons_zero, List.set_cons_succ]
      refine take_d (i := 6) (.slice (some ⟨b, off, none⟩) n c) 21 rfl (by kernel_rfl) (by kernel_rfl) (by kernel_rfl) (by kernel_rfl) rfl (by kernel_rfl) (by kernel_rfl) (fun W hW => by kernel_rfl) S0 (fun _ _ _ h => h) ?_
      simp only [Act.put, List.setIfInBounds_toArray, List.set_cons_zero, List.set_cons_succ]
      refine take_d (i := 7) (.int .i64 (k : Int)) 22 rfl (by kernel_rfl) (by kernel_rfl) (by kernel_rfl) (by kernel_rfl) rfl (by kernel_rfl) (by kernel_rfl) (fun W hW => by kernel_rfl) S0 (fun _ _ _ h => h) ?_
      simp only [Act.put, List.setIfInBounds_toArray, List.set_cons_zero, List.set_cons_succ]
      refine take_d (i := 8) (.pointer (some ⟨b, off + k * 2, none⟩)) 23 rfl (by kernel_rfl) (by kernel_rfl) (by kernel_rfl) (by kernel_rfl) rfl (by kernel_rfl) (by kernel_rfl) (fun W hW => nidx_run (.tmp 21) (.tmp 22) b off n c k (by kernel_rfl) (by kernel_rfl) (by kernel_rfl) hlt) S0 (fun _ _ _ h => h) ?_
      simp only [Act.put, List.setIfInBounds_toArray, List.set_cons_zero, List.set_cons_succ]
      refine take_d (i := 9) (.pointer (some ⟨b, off + k * 2 + 1, none⟩)) 24 rfl (by kernel_rfl) (by kernel_rfl) (by kernel_rfl) (by kernel_rfl) rfl (by kernel_rfl) (by kernel_rfl) (fun W hW => nfld1_run (.tmp 23) b (off + k * 2) (by kernel_rfl) (by kernel_rfl)) S0 (fun _ _ _ h => h) ?_
      simp only [Act.put, List.setIfInBounds_toArray, List.set_cons_zero, List.set_cons_succ]
      refine take_d (i := 10) (.slice pA m pc) 25 rfl (by kernel_rfl) (by kernel_rfl) (by kernel_rfl) (by kernel_rfl) rfl (by kernel_rfl) (by kernel_rfl) (fun W hW => cell_run 33 (.tmp 24) ⟨b, off + k * 2 + 1, none⟩ (.slice pA m pc) _ (by kernel_rfl) (by kernel_rfl) (HSt.out W hW).2 Try.underlying33 rfl (by kernel_rfl)) S0 (fun _ _ _ h => h) ?_
      simp only [Act.put, List.setIfInBounds_toArray, List.set_cons_zero, List.set_cons_succ]
      refine any_comes (i := 11) (by kernel_rfl) (op_enter 12 #[.pointer (some ⟨p, 0, none⟩), .string t, .slice pA m pc] (some 26) rfl (by kernel_rfl) (by kernel_rfl) (by kernel_rfl) ((HAdd.out _ P0).mono ?_))
      rintro e z1 ⟨y, F', rfl, hT, hBz⟩
      have S1 := hBz.out
      refine ⟨_, rfl, S1, ?_⟩
      simp only [Act.put, List.setIfInBounds_toArray, List.set_cons_zero, List.set_cons_succ]
      refine any_left (by kernel_rfl) ?_
      refine wpAny_tail 12 (by kernel_rfl) (by kernel_rfl) ?_
      simp only [List.drop_succ_cons, List.drop_zero, List.drop_nil]
      go_wp2
      obtain ⟨wa, hwa⟩ : ∃ x, x = z1 := ⟨_, rfl⟩
      rw [← hwa] at hT hBz ⊢
      clear hwa
      have x5 := hT.out.xv.cell 0
      have x5f := hT.out.xv.frozen 0
      have x5l := hT.out.xv.lt
      go_wp2
      have P1 : MkT w0 w wa.drew R3 R5 p F' A' n' c' g (addG g x ps).1 := hT.out.up ⟨rfl, rfl, rfl, Nat.le_refl _, fun _ _ => rfl⟩
      have S0 : (Below w0.heap.size w0 wa.drew ∧ wa.drew.cell? ⟨R5, 0, none⟩ = some (.slice A' n' c')) := ⟨P1.dh.below, P1.xv.cell 0⟩
      refine region_T (fun W => (Below w0.heap.size w0 W ∧ W.cell? ⟨R5, 0, none⟩ = some (.slice A' n' c'))) (fun j => decide (13 ≤ j)) (by kernel_rfl) ?_
      refine any_asT rfl (listed' := #[false, false, false, false, false, false, false, false, false, false, false, false, false, false, false, false]) (by kernel_rfl) ?_
      refine take_c (i := 0) (.agg #[.slice A' n' c']) 28 rfl (by kernel_rfl) (by kernel_rfl) (by kernel_rfl) (by kernel_rfl) (by kernel_rfl) rfl (by kernel_rfl) (by kernel_rfl) (fun W hW => dagload_run (.tmp 5) R5 A' n' c' (by kernel_rfl) (by kernel_rfl) hW.2) S0 (fun _ _ _ h => h) ?_
      simp only [Act.put, List.setIfInBounds_toArray, List.set_cons_zero, List.set_cons_succ]
      refine take_c (i := 1) (.slice (some ⟨b, off, none⟩) n c) 29 rfl (by kernel_rfl) (by kernel_rfl) (by kernel_rfl) (by kernel_rfl) (by kernel_rfl) rfl (by kernel_rfl) (by kernel_rfl) (fun W hW => by kernel_rfl) S0 (fun _ _ _ h => h) ?_
      simp only [Act.put, List.setIfInBounds_toArray, List.set_cons_zero, List.set_cons_succ]
      refine take_c (i := 2) (.int .i64 (k : Int)) 30 rfl (by kernel_rfl) (by kernel_rfl) (by kernel_rfl) (by kernel_rfl) (by kernel_rfl) rfl (by kernel_rfl) (by kernel_rfl) (fun W hW => by kernel_rfl) S0 (fun _ _ _ h => h) ?_
      simp only [Act.put, List.setIfInBounds_toArray, List.set_cons_zero, List.set_cons_succ]
      refine take_c (i := 3) (.pointer (some ⟨b, off + k * 2, none⟩)) 31 rfl (by kernel_rfl) (by kernel_rfl) (by kernel_rfl) (by kernel_rfl) (by kernel_rfl) rfl (by kernel_rfl) (by kernel_rfl) (fun W hW => nidx_run (.tmp 29) (.tmp 30) b off n c k (by kernel_rfl) (by kernel_rfl) (by kernel_rfl) hlt) S0 (fun _ _ _ h => h) ?_
      simp only [Act.put, List.setIfInBounds_toArray, List.set_cons_zero, List.set_cons_succ]
      refine take_c (i := 4) (.pointer (some ⟨b, off + k * 2, none⟩)) 32 rfl (by kernel_rfl) (by kernel_rfl) (by kernel_rfl) (by kernel_rfl) (by kernel_rfl) rfl (by kernel_rfl) (by kernel_rfl) (fun W hW => nfld0_run (.tmp 31) b (off + k * 2) (by kernel_rfl) (by kernel_rfl)) S0 (fun _ _ _ h => h) ?_
      simp only [Act.put, List.setIfInBounds_toArray, List.set_cons_zero, List.set_cons_succ]
      refine take_c (i := 5) (.string t) 33 rfl (by kernel_rfl) (by kernel_rfl) (by kernel_rfl) (by kernel_rfl) (by kernel_rfl) rfl (by kernel_rfl) (by kernel_rfl) (fun W hW => cell_run 9 (.tmp 32) ⟨b, off + k * 2, none⟩ (.string t) _ (by kernel_rfl) (by kernel_rfl) (HSt.out W hW.1).1 Try.underlying9 rfl (by kernel_rfl)) S0 (fun _ _ _ h => h) ?_
      simp only [Act.put, List.setIfInBounds_toArray, List.set_cons_zero, List.set_cons_succ]
      refine take_c (i := 6) (.slice (some ⟨b, off, none⟩) n c) 34 rfl (by kernel_rfl) (by kernel_rfl) (by kernel_rfl) (by kernel_rfl) (by kernel_rfl) rfl (by kernel_rfl) (by kernel_rfl) (fun W hW => by kernel_rfl) S0 (fun _ _ _ h => h) ?_
      simp only [Act.put, List.setIfInBounds_toArray, List.set_cons_zero, List.set_cons_succ]
      refine take_c (i := 7) (.int .i64 (k : Int)) 35 rfl (by kernel_rfl) (by kernel_rfl) (by kernel_rfl) (by kernel_rfl) (by kernel_rfl) rfl (by kernel_rfl) (by kernel_rfl) (fun W hW => by kernel_rfl) S0 (fun _ _ _ h => h) ?_
      simp only [Act.put, List.setIfInBounds_toArray, List.set_cons_zero, List.set_cons_succ]
      refine take_c (i := 8) (.pointer (some ⟨b, off + k * 2, none⟩)) 36 rfl (by kernel_rfl) (by kernel_rfl) (by kernel_rfl) (by kernel_rfl) (by kernel_rfl) rfl (by kernel_rfl) (by kernel_rfl) (fun W hW => nidx_run (.tmp 34) (.tmp 35) b off n c k (by kernel_rfl) (by kernel_rfl) (by kernel_rfl) hlt) S0 (fun _ _ _ h => h) ?_
      simp only [Act.put, List.setIfInBounds_toArray, List.set_cons_zero, List.set_cons_succ]
      refine take_c (i := 9) (.pointer (some ⟨b, off + k * 2 + 1, none⟩)) 37 rfl (by kernel_rfl) (by kernel_rfl) (by kernel_rfl) (by kernel_rfl) (by kernel_rfl) rfl (by kernel_rfl) (by kernel_rfl) (fun W hW => nfld1_run (.tmp 36) b (off + k * 2) (by kernel_rfl) (by kernel_rfl)) S0 (fun _ _ _ h => h) ?_
      simp only [Act.put, List.setIfInBounds_toArray, List.set_cons_zero, List.set_cons_succ]
      refine take_c (i := 10) (.slice pA m pc) 38 rfl (by kernel_rfl) (by kernel_rfl) (by kernel_rfl) (by kernel_rfl) (by kernel_rfl) rfl (by kernel_rfl) (by kernel_rfl) (fun W hW => cell_run 33 (.tmp 37) ⟨b, off + k * 2 + 1, none⟩ (.slice pA m pc) _ (by kernel_rfl) (by kernel_rfl) (HSt.out W hW.1).2 Try.underlying33 rfl (by kernel_rfl)) S0 (fun _ _ _ h => h) ?_
      simp only [Act.put, List.setIfInBounds_toArray, List.set_cons_zero, List.set_cons_succ]
      refine any_comes (i := 11) (by kernel_rfl) (op_enter 11 #[.agg #[.slice A' n' c'], .string t, .slice pA m pc] (some 39) rfl (by kernel_rfl) (by kernel_rfl) (by kernel_rfl) ((HRA.out _ _ P1).mono ?_))
      rintro e z2 ⟨A2, n2, c2, y2, rfl, q2, b2⟩
      have b2' : Below wa.heap.size wa z2 := ⟨b2.out.os, b2.out.tape, b2.out.output, b2.out.size, b2.out.block⟩
      have S1 : (Below w0.heap.size w0 z2 ∧ z2.cell? ⟨R5, 0, none⟩ = some (.slice A' n' c')) := ⟨S0.1.trans (b2.out.mono S0.1.size), (hT.out.up b2').xv.cell 0⟩
      refine ⟨_, rfl, S1, ?_⟩
      simp only [Act.put, List.setIfInBounds_toArray, List.set_cons_zero, List.set_cons_succ]
      refine take_c (i := 12) (.tuple #[.agg #[.slice A2 n2 c2], .int .i64 y2]) 27 rfl (by kernel_rfl) (by kernel_rfl) (by kernel_rfl) (by kernel_rfl) (by kernel_rfl) rfl (by kernel_rfl) (by kernel_rfl) (fun W hW => by kernel_rfl) S1 (fun _ _ _ h => h) ?_
      simp only [Act.put, List.setIfInBounds_toArray, List.set_cons_zero, List.set_cons_succ]
      have x6 := (hT.out.up b2').xv.cell 0
      have x6f := (hT.out.up b2').xv.frozen 0
      have x6l := (hT.out.up b2').xv.lt
      refine any_left (by kernel_rfl) ?_
      refine take_p (i := 13) (.agg #[.slice A2 n2 c2]) 40 rfl (by kernel_rfl) (by kernel_rfl) (by kernel_rfl) (by kernel_rfl) (by kernel_rfl) (fun W => by kernel_rfl) (fun _ _ _ h => h) ?_
      simp only [Act.put, List.setIfInBounds_toArray, List.set_cons_zero, List.set_cons_succ]
      refine take_p (i := 14) (.int .i64 y2) 41 rfl (by kernel_rfl) (by kernel_rfl) (by kernel_rfl) (by kernel_rfl) (by kernel_rfl) (fun W => by kernel_rfl) (fun _ _ _ h => h) ?_
      simp only [Act.put, List.setIfInBounds_toArray, List.set_cons_zero, List.set_cons_succ]
      refine wpAny_tail 15 (by kernel_rfl) (by kernel_rfl) ?_
      simp only [List.append, List.append_eq, List.drop_succ_cons, List.drop_zero, List.drop_nil]
      go_wp2
      go_roundw
      case rel => exact ⟨k + 1, F', A2, n2, c2, by omega, by go_num, by rw [HMk.out]; exact hT.out.store (show Below wa.heap.size wa z2 from b2') q2.out⟩
      case measure => simp [intOf]; omega
    · have d0 : decide ((k : Int) < (n : Int)) = false := decide_eq_false (by omega)
      have hkn : k = n := by omega
      subst hkn
      rw [HM.out] at hS
      have P0 : MkS w0 w wr.drew R3 R5 p F A' n' c' (makeG l) := hS.out.up ⟨rfl, rfl, rfl, Nat.le_refl _, fun _ _ => rfl⟩
      have x5 := P0.xv.cell 0
      have x3 := P0.res.cell 0
      have x3f := P0.res.frozen 0
      have x3l := P0.res.lt
      have P0 := Lib.hid P0
      go_wp2
      go_region
      go_wp2
      obtain ⟨q1, q2, q3⟩ := hS.out.out (.slice A' n' c')
      have dr : ∀ W : World, Below W.heap.size W W.drew := fun W => ⟨rfl, rfl, rfl, Nat.le_refl _, fun _ _ => rfl⟩
      refine bodyPost_ret (v := .tuple #[.pointer (some ⟨p, 0, none⟩), .agg #[.slice A' n' c']]) (by simp [results, Try.results14, go_sem, q3]) rfl ?_
      exact HG.out p F A' n' c' rfl (q1.up (dr _)) (q2.up q1.below.size (dr _))
end Go.Proofs.Ytbeihiokjhfepaa
