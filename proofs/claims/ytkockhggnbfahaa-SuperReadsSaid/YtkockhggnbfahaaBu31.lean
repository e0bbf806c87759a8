/- Lemmas under the proofs of this place: SupPRead, DiskDo. No statement is proved here. -/
import Derived.Test.YtkockhggnbfahaaBu30
import Derived.Test.YtkockhggnbfahaaBu18
import Derived.Deep.RegionHeld3
section
set_option linter.unusedVariables false
set_option linter.unusedSimpArgs false
namespace Go.Proofs.Ytkockhggnbfahaa
open Go.RowKit
theorem pdisk_up8 {w w1 w2 : World} {g : Nat} {F : Nat → Prop} {d : Dk} (h : PDisk w1 g F d) (hF : ∀ k, F k → k < w.heap.size) (hb : Below w.heap.size w1 w2) : PDisk w2 g F d :=
  h.turns (E := fun k => w.heap.size ≤ k) (E' := fun k => w.heap.size ≤ k) ⟨hb.os, hb.tape, hb.output, hb.size, fun k _ hn => hb.block k (by omega), fun _ h => .inl h⟩ (fun k hk => by have := hF k hk; omega)
theorem Try.supNe (g b l f z o : Int) (v : Bool) (W : World) (h : decide (g = 0 ∧ b = 0 ∧ l = 0 ∧ f = 0 ∧ z = 0 ∧ o = 0) = !v) : Sem.run Try.prog (binOp .neq 25 (.agg #[.int .i64 g, .int .i64 b, .int .i64 l, .int .i64 f, .int .i64 z, .int .i64 o]) (.agg #[.int .i64 0, .int .i64 0, .int .i64 0, .int .i64 0, .int .i64 0, .int .i64 0])) W = .ok (.bool v) W := by
  have hv : v = !decide (g = 0 ∧ b = 0 ∧ l = 0 ∧ f = 0 ∧ z = 0 ∧ o = 0) := by rw [h, Bool.not_not]
  subst hv
  simp [go_sem]
  by_cases h1 : g = 0 <;> by_cases h2 : b = 0 <;> by_cases h3 : l = 0 <;> by_cases h4 : f = 0 <;> by_cases h5 : z = 0 <;> by_cases h6 : o = 0 <;> simp [h1, h2, h3, h4, h5, h6]
theorem rb_six {W : World} {g : Nat} {A : Option Addr} {L : List UInt8} {s : Pu} (h : RB W W.heap.size A L) (hg : Blk W g 25 (supC s)) (v0 v1 v2 v3 v4 v5 : Value) : RB ((((((W.setCell ⟨g, 0, none⟩ v0).setCell ⟨g, 1, none⟩ v1).setCell ⟨g, 2, none⟩ v2).setCell ⟨g, 3, none⟩ v3).setCell ⟨g, 4, none⟩ v4).setCell ⟨g, 5, none⟩ v5) ((((((W.setCell ⟨g, 0, none⟩ v0).setCell ⟨g, 1, none⟩ v1).setCell ⟨g, 2, none⟩ v2).setCell ⟨g, 3, none⟩ v3).setCell ⟨g, 4, none⟩ v4).setCell ⟨g, 5, none⟩ v5).heap.size A L :=
  rb_only8 h hg (no8_sup s) (only_trans (only_trans (only_trans (only_trans (only_trans (only_set _ _ _ _) (only_set _ _ _ _)) (only_set _ _ _ _)) (only_set _ _ _ _)) (only_set _ _ _ _)) (only_set _ _ _ _))
structure MidP (w W : World) (q : Nat) (F : Nat → Prop) (d : Dk) (g : Nat) (s : Pu) : Prop where
  disk : PDisk W q F d
  res : Blk W g 25 #[.int .i64 0, .int .i64 0, .int .i64 0, .int .i64 0, .int .i64 0, .int .i64 0]
  best : Blk W (g + 1) 25 (supC s)
  turns : Turns w W F F
section
variable {w W W' : World} {q g : Nat} {F : Nat → Prop} {d d' : Dk} {s s' : Pu}
theorem MidP.up (h : MidP w W q F d g s) (hF : ∀ k, F k → k < w.heap.size) (hb : Below W.heap.size W W') : MidP w W' q F d g s :=
  ⟨pdisk_up8 h.disk hF (hb.mono h.turns.size), h.res.below hb h.res.lt, h.best.below hb h.best.lt, turns_up8 h.turns (hb.mono h.turns.size)⟩
theorem MidP.read (h : MidP w W q F d g s) (hF : ∀ k, F k → k < w.heap.size) (hg : w.heap.size ≤ g) (hd : PDisk W' q F d') (ht : Turns W W' F F) : MidP w W' q F d' g s :=
  ⟨hd, h.res.turns ht (fun hh => by have := hF g hh; omega), h.best.turns ht (fun hh => by have := hF (g + 1) hh; omega), h.turns.trans ht⟩
theorem MidP.b (h : MidP w W q F d g s) : W.cell? ⟨g + 1, 0, none⟩ = some (.int .i64 s.gen) ∧ W.cell? ⟨g + 1, 1, none⟩ = some (.int .i64 s.blocks) ∧ W.cell? ⟨g + 1, 2, none⟩ = some (.int .i64 s.log) ∧ W.cell? ⟨g + 1, 3, none⟩ = some (.int .i64 s.first) ∧ W.cell? ⟨g + 1, 4, none⟩ = some (.int .i64 s.size) ∧ W.cell? ⟨g + 1, 5, none⟩ = some (.int .i64 s.owner) :=
  ⟨by rw [h.best.cell]; rfl, by rw [h.best.cell]; rfl, by rw [h.best.cell]; rfl, by rw [h.best.cell]; rfl, by rw [h.best.cell]; rfl, by rw [h.best.cell]; rfl⟩
theorem MidP.r (h : MidP w W q F d g s) : ResU W g :=
  ⟨⟨by rw [h.res.cell]; rfl, by rw [h.res.cell]; rfl, by rw [h.res.cell]; rfl, by rw [h.res.cell]; rfl, by rw [h.res.cell]; rfl, by rw [h.res.cell]; rfl⟩, h.res.frozen 0, h.res.frozen 1, h.res.frozen 2, h.res.frozen 3, h.res.frozen 4, h.res.frozen 5⟩
theorem MidP.put (h : MidP w W q F d g s) (hF : ∀ k, F k → k < w.heap.size) (hg : w.heap.size ≤ g) (t : Pu) : MidP w ((((((W.setCell ⟨g + 1, 0, none⟩ (.int .i64 t.gen)).setCell ⟨g + 1, 1, none⟩ (.int .i64 t.blocks)).setCell ⟨g + 1, 2, none⟩ (.int .i64 t.log)).setCell ⟨g + 1, 3, none⟩ (.int .i64 t.first)).setCell ⟨g + 1, 4, none⟩ (.int .i64 t.size)).setCell ⟨g + 1, 5, none⟩ (.int .i64 t.owner)) q F d g t := by
  have hb := below_six (Below.refl w.heap.size W) (show w.heap.size ≤ g + 1 by omega) (.int .i64 t.gen) (.int .i64 t.blocks) (.int .i64 t.log) (.int .i64 t.first) (.int .i64 t.size) (.int .i64 t.owner)
  refine ⟨pdisk_up8 h.disk hF hb, ?_, (((((h.best.set_ 0 _).set_ 1 _).set_ 2 _).set_ 3 _).set_ 4 _).set_ 5 _, turns_up8 h.turns hb⟩
  have ne : ∀ j, g ≠ (⟨g + 1, j, none⟩ : Addr).block := fun j => by show g ≠ g + 1; omega
  exact (((((h.res.far (ne 0) _).far (ne 1) _).far (ne 2) _).far (ne 3) _).far (ne 4) _).far (ne 5) _
end
theorem step_zero (n k : Int) (b : List UInt8) (s : Pu) (h : s = .zero ∨ 0 < s.gen) : stepU n k b s = .zero ∨ 0 < (stepU n k b s).gen := by
  unfold stepU
  split
  · rename_i h1; exact .inr (by have := getU_gen h1.1; omega)
  · exact h
theorem best_zero (n : Int) (b0 b1 : List UInt8) : bestK n b0 b1 2 = .zero ∨ 0 < (bestK n b0 b1 2).gen := step_zero n 1 b1 _ (step_zero n 0 b0 _ (.inl rfl))
theorem best_gen (n : Int) (b0 b1 : List UInt8) (k : Nat) (hk : k ≤ 2) : 0 ≤ (bestK n b0 b1 k).gen := by
  match k, hk with
  | 0, _ => exact Int.le_refl 0
  | 1, _ => exact step_gen n 0 b0 _ (Int.le_refl 0)
  | 2, _ => exact step_gen n 1 b1 _ (step_gen n 0 b0 _ (Int.le_refl 0))
theorem best_step (n : Int) (b0 b1 : List UInt8) (j : Nat) (hj : j < 2) : bestK n b0 b1 (j + 1) = stepU n j (if j = 0 then b0 else b1) (bestK n b0 b1 j) := by
  match j, hj with
  | 0, _ => rfl
  | 1, _ => rfl
theorem blank_step (b0 b1 : List UInt8) (j : Nat) (hj : j < 2) : blankK b0 b1 (j + 1) = (blankK b0 b1 j && (if j = 0 then b0 else b1).all (· == 0)) := by
  match j, hj with
  | 0, _ => rfl
  | 1, _ => rfl
theorem midp_start {w : World} {q : Nat} {F : Nat → Prop} {d : Dk} (h : PDisk w q F d) : MidP w ((w.alloc (.cells #[.int .i64 0, .int .i64 0, .int .i64 0, .int .i64 0, .int .i64 0, .int .i64 0] 25)).alloc (.cells #[.int .i64 0, .int .i64 0, .int .i64 0, .int .i64 0, .int .i64 0, .int .i64 0] 25)) q F d w.heap.size .zero := by
  have e1 : (w.alloc (.cells #[.int .i64 0, .int .i64 0, .int .i64 0, .int .i64 0, .int .i64 0, .int .i64 0] 25)).heap.size = w.heap.size + 1 := by simp
  have hb := ((Below.refl w.heap.size w).alloc (Nat.le_refl _) (.cells #[.int .i64 0, .int .i64 0, .int .i64 0, .int .i64 0, .int .i64 0, .int .i64 0] 25)).alloc (by simp) (.cells #[.int .i64 0, .int .i64 0, .int .i64 0, .int .i64 0, .int .i64 0, .int .i64 0] 25)
  have hr := Blk.new w 25 #[.int .i64 0, .int .i64 0, .int .i64 0, .int .i64 0, .int .i64 0, .int .i64 0]
  have hbe := Blk.new (w.alloc (.cells #[.int .i64 0, .int .i64 0, .int .i64 0, .int .i64 0, .int .i64 0, .int .i64 0] 25)) 25 #[.int .i64 0, .int .i64 0, .int .i64 0, .int .i64 0, .int .i64 0, .int .i64 0]
  rw [e1] at hbe
  exact ⟨h.below hb, hr.below ((Below.refl _ _).alloc (Nat.le_refl _) _) hr.lt, hbe, Turns.of_below hb F⟩
set_option maxRecDepth 100000 in
set_option maxHeartbeats 8000000 in
theorem supread_on {w : World} {q : Nat} {F : Nat → Prop} {d : Dk} (h : PDisk w q F d) (ho : d.off = false) (hl : d.load ≤ 90000) :
    Calls Try.prog 18 #[.pointer (some ⟨q, 0, none⟩)] w fun e w' => e = .returned (.tuple #[supV (readU d).2.1, .int .i64 (readU d).2.2]) ∧ Deeds (readU d).1 F w w' q := by
  have hgood := h.good
  have hlen : 16 ≤ d.safe.length := hgood.few
  have HRU := Lib.hid (readU_on ho (by omega))
  obtain ⟨b0, hb0⟩ : ∃ b, b = d.now 0 := ⟨_, rfl⟩
  obtain ⟨b1, hb1⟩ : ∃ b, b = d.now 1 := ⟨_, rfl⟩
  obtain ⟨n, hn⟩ : ∃ n, n = d.safe.length := ⟨_, rfl⟩
  have hnow : ∀ j, j < 2 → d.now j = (if j = 0 then b0 else b1) := fun j hj => by
    match j, hj with
    | 0, _ => exact hb0.symm
    | 1, _ => exact hb1.symm
  have hn256 : ∀ j, j < 2 → (d.now j).length = 256 := fun j hj => Dk.fit_now hgood.fit (by omega)
  have HRd : Hid (∀ W (j : Nat), j < 2 → PDisk W q F { d with reads := d.reads + j } → Calls Try.prog 37 #[.pointer (some ⟨q, 0, none⟩), .int .i64 (j : Int)] W fun e w' => ∃ a c, e = .returned (.tuple #[.slice (some ⟨a, 0, none⟩) 256 c, .int .i64 0]) ∧ Hid (RBc w' (some ⟨a, 0, none⟩) (if j = 0 then b0 else b1) c) ∧ Hid (PDisk w' q F { d with reads := d.reads + (j + 1) } ∧ Turns W w' F F)) := fun W j hj hW => by
    have h1 := read_any hW (j : Int) (by unfold Dk.load at hl ⊢; simp only; omega)
    have hrd : Dk.read { d with reads := d.reads + j } (j : Int) = ({ d with reads := d.reads + (j + 1) }, d.now j, 0) := read_on8 (d := { d with reads := d.reads + j }) (n := j) ho (by show j < d.safe.length; omega)
    refine h1.mono fun e w' hh => ?_
    unfold ReadPost at hh
    rw [hrd] at hh
    obtain ⟨A, c, he, hown, hs⟩ := hh
    have hrc := own_cap7 hown
    obtain ⟨a, rfl, _, _, _, _⟩ := own_arr hown (by rw [hn256 j hj]; omega)
    rw [hn256 j hj] at he
    rw [hnow j hj] at hrc
    exact ⟨a, c, he, hrc, hs.1, hs.2⟩
  have hb256 : ∀ j, j < 2 → (if j = 0 then b0 else b1).length = 256 := fun j hj => by rw [← hnow j hj]; exact hn256 j hj
  have HZr : Hid (∀ W (j : Nat) (a c : Nat), j < 2 → RB W W.heap.size (some ⟨a, 0, none⟩) (if j = 0 then b0 else b1) → Calls Try.prog 54 #[.slice (some ⟨a, 0, none⟩) 256 c] W fun e w' => e = .returned (.bool ((if j = 0 then b0 else b1).all (· == 0))) ∧ Below W.heap.size W w') := fun W j a c hj hr => iszero_any _ 256 _ c W (hb256 j hj).symm hr (by omega)
  have HCt : Hid (∀ W (j : Nat) (a c : Nat), j < 2 → RBc W (some ⟨a, 0, none⟩) (if j = 0 then b0 else b1) c → Calls Try.prog 52 #[.slice (some ⟨a, 0, none⟩) 256 c, .int .i64 (j : Int), .int .i64 (n : Int)] W fun e w' => e = .returned (supV (cntU n j (if j = 0 then b0 else b1))) ∧ Below W.heap.size W w') := fun W j a c hj hr =>
    counted_any _ a c (j : Int) (n : Int) W (hb256 j hj) hr.1 (by have := hr.2.1; rw [hb256 j hj] at this; exact this) hr.2.2
  have HBk : Hid (∀ W r, PDisk W q F { d with reads := r } → Calls Try.prog 53 #[.pointer (some ⟨q, 0, none⟩)] W fun e w' => e = .returned (.int .i64 (n : Int)) ∧ W = w') := fun W r hW => by
    rw [hn]
    exact blocks_any (d := { d with reads := r }) hW
  have HF : Hid (∀ k, F k → k < w.heap.size) := h.flt
  have nb := fun w' => Try.supBuild0 w'
  have a25 := fun w' => Try.aggSup w'
  have s25 := fun w' => Try.sizeSup w'
  have HM0 : Hid (MidP w ((w.alloc (.cells #[.int .i64 0, .int .i64 0, .int .i64 0, .int .i64 0, .int .i64 0, .int .i64 0] 25)).alloc (.cells #[.int .i64 0, .int .i64 0, .int .i64 0, .int .i64 0, .int .i64 0, .int .i64 0] 25)) q F { d with reads := d.reads + 0 } w.heap.size .zero) := midp_start h
  have HBs : Hid (bestU d.safe.length (d.now 0) (d.now 1) = bestU n b0 b1) := by show _ = _; rw [hn, hb0, hb1]
  clear hb0 hb1 hn hnow hn256 hb256 hlen hgood ho hl h
  go_enter Try.func18, Try.ntmps18
  go_wp2
  have HM1 := HM0.out
  generalize ((w.alloc (.cells #[.int .i64 0, .int .i64 0, .int .i64 0, .int .i64 0, .int .i64 0, .int .i64 0] 25)).alloc (.cells #[.int .i64 0, .int .i64 0, .int .i64 0, .int .i64 0, .int .i64 0, .int .i64 0] 25)) = W0 at HM1 ⊢
  obtain ⟨g, hg⟩ : ∃ g, g = w.heap.size := ⟨_, rfl⟩
  rw [← hg] at HM1 ⊢
  have HGe : Hid (w.heap.size ≤ g) := by show _ ≤ _; omega
  clear hg HM0
  go_loopw [5, 6, 7, 8, 9, 10] (fun bl _ _ _ _ x wr => ∃ j : Nat, j ≤ 2 ∧ x = .int .i64 (j : Int) ∧ ∃ bb, bl = .bool bb ∧ Hid (bb = blankK b0 b1 j) ∧ Hid (MidP w wr q F { d with reads := d.reads + j } g (bestK n b0 b1 j))) (fun _ _ _ _ _ x _ => 2 - (intOf x).toNat)
  case atStart => exact ⟨0, by omega, rfl, true, rfl, rfl, HM1⟩
  case round =>
    clear HM1
    obtain ⟨j, hj, rfl, bb, rfl, HBB, HM⟩ := hrel
    by_cases hlt : j < 2
    · obtain ⟨b, hb⟩ : ∃ b, b = (if j = 0 then b0 else b1) := ⟨_, rfl⟩
      obtain ⟨t, ht⟩ : ∃ t, t = cntU n j b := ⟨_, rfl⟩
      obtain ⟨s, hs⟩ : ∃ s, s = bestK n b0 b1 j := ⟨_, rfl⟩
      obtain ⟨z, hz⟩ : ∃ z, z = b.all (· == 0) := ⟨_, rfl⟩
      have hM := HM.out
      rw [← hs] at hM
      have hs0 : 0 ≤ s.gen := by rw [hs]; exact best_gen n b0 b1 j hj
      have HRj := Lib.hid (HRd.out wr j hlt hM.disk)
      have HZj : Hid (∀ W (a c : Nat), RB W W.heap.size (some ⟨a, 0, none⟩) b → Calls Try.prog 54 #[.slice (some ⟨a, 0, none⟩) 256 c] W fun e w' => e = .returned (.bool z) ∧ Below W.heap.size W w') := fun W a c hr => by
        rw [hb] at hr
        rw [hz, hb]
        exact HZr.out W j a c hlt hr
      have HCj : Hid (∀ W (a c : Nat), RBc W (some ⟨a, 0, none⟩) b c → Calls Try.prog 52 #[.slice (some ⟨a, 0, none⟩) 256 c, .int .i64 (j : Int), .int .i64 (n : Int)] W fun e w' => e = .returned (.agg #[.int .i64 t.gen, .int .i64 t.blocks, .int .i64 t.log, .int .i64 t.first, .int .i64 t.size, .int .i64 t.owner]) ∧ Below W.heap.size W w') := fun W a c hr => by
        rw [hb] at hr
        have h1 := HCt.out W j a c hlt hr
        rw [← hb, ← ht] at h1
        exact h1
      rw [← hb] at HRj
      have hst : bestK n b0 b1 (j + 1) = stepU n j b s := by rw [hs, hb]; exact best_step n b0 b1 j hlt
      have hbl : blankK b0 b1 (j + 1) = (bb && z) := by rw [HBB.out, hz, hb]; exact blank_step b0 b1 j hlt
      have HSt : Hid (bestK n b0 b1 (j + 1) = if t.gen > s.gen then t else s) := by show _ = _; rw [hst, step_cnt _ _ _ _ hs0, ht]
      have HBl := Lib.hid hbl
      have dj : decide ((j : Int) < 2) = true := decide_eq_true (by omega)
      have HMs := Lib.hid hM
      clear hb ht hs hz hst hbl hM hs0
      have HM2f : Hid (∀ w2, PDisk w2 q F { d with reads := d.reads + (j + 1) } ∧ Turns wr w2 F F → MidP w w2 q F { d with reads := d.reads + (j + 1) } g s) := fun w2 hh => HMs.out.read HF.out HGe.out hh.1 hh.2
      have HUp : Hid (∀ W W', MidP w W q F { d with reads := d.reads + (j + 1) } g s → Below W.heap.size W W' → MidP w W' q F { d with reads := d.reads + (j + 1) } g s) := fun W W' h hb => h.up HF.out hb
      have HUpt : Hid (∀ W W', MidP w W q F { d with reads := d.reads + (j + 1) } g t → Below W.heap.size W W' → MidP w W' q F { d with reads := d.reads + (j + 1) } g t) := fun W W' h hb => h.up HF.out hb
      have HPt : Hid (∀ W, MidP w W q F { d with reads := d.reads + (j + 1) } g s → MidP w ((((((W.setCell ⟨g + 1, 0, none⟩ (.int .i64 t.gen)).setCell ⟨g + 1, 1, none⟩ (.int .i64 t.blocks)).setCell ⟨g + 1, 2, none⟩ (.int .i64 t.log)).setCell ⟨g + 1, 3, none⟩ (.int .i64 t.first)).setCell ⟨g + 1, 4, none⟩ (.int .i64 t.size)).setCell ⟨g + 1, 5, none⟩ (.int .i64 t.owner)) q F { d with reads := d.reads + (j + 1) } g t) := fun W h => h.put HF.out HGe.out t
      have HYc := Lib.hid (fun w3 W hb => super_at w3 W t.gen t.blocks t.log t.first t.size t.owner hb)
      clear HM HBB HRd HZr HCt HMs
      rcases bb with _ | _
      · have HB2 : Hid (false = blankK b0 b1 (j + 1)) := by show _ = _; rw [HBl.out]; rfl
        clear HBl HZj
        by_cases hg : t.gen > s.gen
        · have HS2 : Hid (bestK n b0 b1 (j + 1) = t) := by show _ = _; rw [HSt.out, if_pos hg]
          have d1 : decide (t.gen > s.gen) = true := decide_eq_true hg
          have d2 : decide (s.gen < t.gen) = true := decide_eq_true hg
          clear hg HSt
          go_wp2_with (first
            | (go_at_call 54; (with_reducible refine (HZj.out _ _ _ rb4).mono ?_); rintro e w5 ⟨rfl, hb5⟩; have M5 := HUpt.out _ _ M4 hb5)
            | (go_at_call 52; (with_reducible refine (HCj.out _ _ _ r2.out).mono ?_); rintro e w3 ⟨rfl, hb3⟩; have hb3a := hb3.alloc hb3.size (.cells #[.int .i64 t.gen, .int .i64 t.blocks, .int .i64 t.log, .int .i64 t.first, .int .i64 t.size, .int .i64 t.owner] 25); have M3 := HUp.out _ _ M2 hb3a; obtain ⟨p0, p1, p2, p3, p4, p5⟩ := M3.b; have rb3 := rb_up7 rb2 hb3a; obtain ⟨y0, y1, y2, y3, y4, y5⟩ := HYc.out w3 _ (Below.refl _ _); have z0 := M3.best.frozen 0; have z1 := M3.best.frozen 1; have z2 := M3.best.frozen 2; have z3 := M3.best.frozen 3; have z4 := M3.best.frozen 4; have z5 := M3.best.frozen 5; have M4 := HPt.out _ M3; have rb4 := rb_six rb3 M3.best (.int .i64 t.gen) (.int .i64 t.blocks) (.int .i64 t.log) (.int .i64 t.first) (.int .i64 t.size) (.int .i64 t.owner))
            | (go_at_call 53; (with_reducible refine (HBk.out _ _ M2.disk).mono ?_); rintro e w6 ⟨rfl, rfl⟩)
            | (go_at_call 37; (with_reducible refine HRj.out.mono ?_); rintro e w2 ⟨a2, c2, rfl, r2, hd2⟩; have rb2 := r2.out.1; have M2 := HM2f.out w2 hd2.out))
          refine ⟨⟨j + 1, by omega, by go_num, _, rfl, HB2, by rw [HS2.out]; exact M4⟩, ?_⟩
          simp [intOf]; omega
        · have HS2 : Hid (bestK n b0 b1 (j + 1) = s) := by show _ = _; rw [HSt.out, if_neg hg]
          have d1 : decide (t.gen > s.gen) = false := decide_eq_false hg
          have d2 : decide (s.gen < t.gen) = false := decide_eq_false hg
          clear hg HSt
          go_wp2_with (first
            | (go_at_call 54; (with_reducible refine (HZj.out _ _ _ rb3).mono ?_); rintro e w5 ⟨rfl, hb5⟩; have M5 := HUp.out _ _ M3 hb5)
            | (go_at_call 52; (with_reducible refine (HCj.out _ _ _ r2.out).mono ?_); rintro e w3 ⟨rfl, hb3⟩; have hb3a := hb3.alloc hb3.size (.cells #[.int .i64 t.gen, .int .i64 t.blocks, .int .i64 t.log, .int .i64 t.first, .int .i64 t.size, .int .i64 t.owner] 25); have M3 := HUp.out _ _ M2 hb3a; obtain ⟨p0, p1, p2, p3, p4, p5⟩ := M3.b; have rb3 := rb_up7 rb2 hb3a; obtain ⟨y0, y1, y2, y3, y4, y5⟩ := HYc.out w3 _ (Below.refl _ _))
            | (go_at_call 53; (with_reducible refine (HBk.out _ _ M2.disk).mono ?_); rintro e w6 ⟨rfl, rfl⟩)
            | (go_at_call 37; (with_reducible refine HRj.out.mono ?_); rintro e w2 ⟨a2, c2, rfl, r2, hd2⟩; have rb2 := r2.out.1; have M2 := HM2f.out w2 hd2.out))
          refine ⟨⟨j + 1, by omega, by go_num, _, rfl, HB2, by rw [HS2.out]; exact M3⟩, ?_⟩
          simp [intOf]; omega
      · have HB2 : Hid (z = blankK b0 b1 (j + 1)) := by show _ = _; rw [HBl.out]; rfl
        clear HBl
        by_cases hg : t.gen > s.gen
        · have HS2 : Hid (bestK n b0 b1 (j + 1) = t) := by show _ = _; rw [HSt.out, if_pos hg]
          have d1 : decide (t.gen > s.gen) = true := decide_eq_true hg
          have d2 : decide (s.gen < t.gen) = true := decide_eq_true hg
          clear hg HSt
          go_wp2_with (first
            | (go_at_call 54; (with_reducible refine (HZj.out _ _ _ rb4).mono ?_); rintro e w5 ⟨rfl, hb5⟩; have M5 := HUpt.out _ _ M4 hb5)
            | (go_at_call 52; (with_reducible refine (HCj.out _ _ _ r2.out).mono ?_); rintro e w3 ⟨rfl, hb3⟩; have hb3a := hb3.alloc hb3.size (.cells #[.int .i64 t.gen, .int .i64 t.blocks, .int .i64 t.log, .int .i64 t.first, .int .i64 t.size, .int .i64 t.owner] 25); have M3 := HUp.out _ _ M2 hb3a; obtain ⟨p0, p1, p2, p3, p4, p5⟩ := M3.b; have rb3 := rb_up7 rb2 hb3a; obtain ⟨y0, y1, y2, y3, y4, y5⟩ := HYc.out w3 _ (Below.refl _ _); have z0 := M3.best.frozen 0; have z1 := M3.best.frozen 1; have z2 := M3.best.frozen 2; have z3 := M3.best.frozen 3; have z4 := M3.best.frozen 4; have z5 := M3.best.frozen 5; have M4 := HPt.out _ M3; have rb4 := rb_six rb3 M3.best (.int .i64 t.gen) (.int .i64 t.blocks) (.int .i64 t.log) (.int .i64 t.first) (.int .i64 t.size) (.int .i64 t.owner))
            | (go_at_call 53; (with_reducible refine (HBk.out _ _ M2.disk).mono ?_); rintro e w6 ⟨rfl, rfl⟩)
            | (go_at_call 37; (with_reducible refine HRj.out.mono ?_); rintro e w2 ⟨a2, c2, rfl, r2, hd2⟩; have rb2 := r2.out.1; have M2 := HM2f.out w2 hd2.out))
          refine ⟨⟨j + 1, by omega, by go_num, _, rfl, HB2, by rw [HS2.out]; exact M5⟩, ?_⟩
          simp [intOf]; omega
        · have HS2 : Hid (bestK n b0 b1 (j + 1) = s) := by show _ = _; rw [HSt.out, if_neg hg]
          have d1 : decide (t.gen > s.gen) = false := decide_eq_false hg
          have d2 : decide (s.gen < t.gen) = false := decide_eq_false hg
          clear hg HSt
          go_wp2_with (first
            | (go_at_call 54; (with_reducible refine (HZj.out _ _ _ rb3).mono ?_); rintro e w5 ⟨rfl, hb5⟩; have M5 := HUp.out _ _ M3 hb5)
            | (go_at_call 52; (with_reducible refine (HCj.out _ _ _ r2.out).mono ?_); rintro e w3 ⟨rfl, hb3⟩; have hb3a := hb3.alloc hb3.size (.cells #[.int .i64 t.gen, .int .i64 t.blocks, .int .i64 t.log, .int .i64 t.first, .int .i64 t.size, .int .i64 t.owner] 25); have M3 := HUp.out _ _ M2 hb3a; obtain ⟨p0, p1, p2, p3, p4, p5⟩ := M3.b; have rb3 := rb_up7 rb2 hb3a; obtain ⟨y0, y1, y2, y3, y4, y5⟩ := HYc.out w3 _ (Below.refl _ _))
            | (go_at_call 53; (with_reducible refine (HBk.out _ _ M2.disk).mono ?_); rintro e w6 ⟨rfl, rfl⟩)
            | (go_at_call 37; (with_reducible refine HRj.out.mono ?_); rintro e w2 ⟨a2, c2, rfl, r2, hd2⟩; have rb2 := r2.out.1; have M2 := HM2f.out w2 hd2.out))
          refine ⟨⟨j + 1, by omega, by go_num, _, rfl, HB2, by rw [HS2.out]; exact M5⟩, ?_⟩
          simp [intOf]; omega
    · obtain ⟨s, hs⟩ : ∃ s, s = bestK n b0 b1 2 := ⟨_, rfl⟩
      have e2 : j = 2 := by omega
      have hM := HM.out
      have hBB := HBB.out
      rw [e2, ← hs] at hM
      rw [e2] at hBB
      have hend := best_end n b0 b1
      have hzz := best_zero n b0 b1
      rw [← hs, ← hBB] at hend
      rw [← hs] at hzz
      have HR2 : Hid (readU d = ({ d with reads := d.reads + 2 }, if 0 < s.gen then (s, 0) else if bb = true then (s, 6) else (s, 13))) := by show _ = _; rw [HRU.out, HBs.out, hend]
      obtain ⟨p0, p1, p2, p3, p4, p5⟩ := hM.b
      obtain ⟨⟨r0, r1, r2, r3, r4, r5⟩, f0, f1, f2, f3, f4, f5⟩ := hM.r
      have HFin : Hid (∀ v0 v1 v2 v3 v4 v5 : Value, Deeds { d with reads := d.reads + 2 } F w ((((((wr.setCell ⟨g, 0, none⟩ v0).setCell ⟨g, 1, none⟩ v1).setCell ⟨g, 2, none⟩ v2).setCell ⟨g, 3, none⟩ v3).setCell ⟨g, 4, none⟩ v4).setCell ⟨g, 5, none⟩ v5) q) := fun v0 v1 v2 v3 v4 v5 =>
        ⟨pdisk_up8 hM.disk HF.out (below_six (Below.refl w.heap.size wr) HGe.out _ _ _ _ _ _), turns_up8 hM.turns (below_six (Below.refl w.heap.size wr) HGe.out _ _ _ _ _ _)⟩
      have dj : decide ((j : Int) < 2) = false := decide_eq_false (by omega)
      have HZZ := Lib.hid hzz
      clear HM HBB hs e2 hM hBB hend hzz HRd HZr HCt HBk HRU HBs hlt hj
      by_cases hgn : 0 < s.gen
      · have ne : ∀ W, Sem.run Try.prog (binOp .neq 25 (.agg #[.int .i64 s.gen, .int .i64 s.blocks, .int .i64 s.log, .int .i64 s.first, .int .i64 s.size, .int .i64 s.owner]) (.agg #[.int .i64 0, .int .i64 0, .int .i64 0, .int .i64 0, .int .i64 0, .int .i64 0])) W = .ok (.bool true) W := fun W => Try.supNe _ _ _ _ _ _ true W (decide_eq_false (by omega))
        have HR3 : Hid (readU d = ({ d with reads := d.reads + 2 }, s, 0)) := by show _ = _; rw [HR2.out, if_pos hgn]
        clear hgn HZZ
        go_wp2
        refine bodyPost_ret (v := .tuple #[.agg #[.int .i64 s.gen, .int .i64 s.blocks, .int .i64 s.log, .int .i64 s.first, .int .i64 s.size, .int .i64 s.owner], .int .i64 0]) (by simp [results, Try.results18, go_sem, r0, r1, r2, r3, r4, r5]) rfl ⟨by rw [HR3.out]; rfl, by rw [HR3.out]; exact HFin.out _ _ _ _ _ _⟩
      · have hs0 : s = .zero := by rcases HZZ.out with h1 | h1; exact h1; exact absurd h1 hgn
        have HR4 : Hid (readU d = ({ d with reads := d.reads + 2 }, if bb = true then (.zero, 6) else (.zero, 13))) := by show _ = _; rw [HR2.out, if_neg hgn, hs0]
        have ne : ∀ W, Sem.run Try.prog (binOp .neq 25 (.agg #[.int .i64 0, .int .i64 0, .int .i64 0, .int .i64 0, .int .i64 0, .int .i64 0]) (.agg #[.int .i64 0, .int .i64 0, .int .i64 0, .int .i64 0, .int .i64 0, .int .i64 0])) W = .ok (.bool false) W := fun W => Try.supNe 0 0 0 0 0 0 false W (by decide)
        rw [hs0] at p0 p1 p2 p3 p4 p5
        have p0 : wr.cell? ⟨g + 1, 0, none⟩ = some (.int .i64 0) := p0
        have p1 : wr.cell? ⟨g + 1, 1, none⟩ = some (.int .i64 0) := p1
        have p2 : wr.cell? ⟨g + 1, 2, none⟩ = some (.int .i64 0) := p2
        have p3 : wr.cell? ⟨g + 1, 3, none⟩ = some (.int .i64 0) := p3
        have p4 : wr.cell? ⟨g + 1, 4, none⟩ = some (.int .i64 0) := p4
        have p5 : wr.cell? ⟨g + 1, 5, none⟩ = some (.int .i64 0) := p5
        clear hgn HZZ HR2 hs0
        rcases bb with _ | _
        · have HR3 : Hid (readU d = ({ d with reads := d.reads + 2 }, .zero, 13)) := HR4.out
          go_wp2
          refine bodyPost_ret (v := .tuple #[.agg #[.int .i64 0, .int .i64 0, .int .i64 0, .int .i64 0, .int .i64 0, .int .i64 0], .int .i64 13]) (by simp [results, Try.results18, go_sem, r0, r1, r2, r3, r4, r5]) rfl ⟨by rw [HR3.out]; rfl, by rw [HR3.out]; exact HFin.out _ _ _ _ _ _⟩
        · have HR3 : Hid (readU d = ({ d with reads := d.reads + 2 }, .zero, 6)) := HR4.out
          go_wp2
          refine bodyPost_ret (v := .tuple #[.agg #[.int .i64 0, .int .i64 0, .int .i64 0, .int .i64 0, .int .i64 0, .int .i64 0], .int .i64 6]) (by simp [results, Try.results18, go_sem, r0, r1, r2, r3, r4, r5]) rfl ⟨by rw [HR3.out]; rfl, by rw [HR3.out]; exact HFin.out _ _ _ _ _ _⟩
set_option maxRecDepth 100000 in
set_option maxHeartbeats 4000000 in
theorem supread_off {w : World} {q : Nat} {F : Nat → Prop} {d : Dk} (h : PDisk w q F d) (ho : d.off = true) (hl : d.load ≤ 90000) :
    Calls Try.prog 18 #[.pointer (some ⟨q, 0, none⟩)] w fun e w' => e = .returned (.tuple #[supV (readU d).2.1, .int .i64 (readU d).2.2]) ∧ Deeds (readU d).1 F w w' q := by
  have HRU := Lib.hid (readU_off ho)
  have HRd : Hid (∀ W, PDisk W q F d → Calls Try.prog 37 #[.pointer (some ⟨q, 0, none⟩), .int .i64 0] W fun e w' => (∃ A c, e = .returned (.tuple #[.slice A 0 c, .int .i64 9])) ∧ PDisk w' q F d ∧ Turns W w' F F) := fun W hW => by
    have h1 := read_any hW 0 (by omega)
    have hrd : d.read 0 = (d, [], 9) := by unfold Dk.read; rw [if_pos ho]
    refine h1.mono fun e w' hh => ?_
    unfold ReadPost at hh
    rw [hrd] at hh
    obtain ⟨A, c, he, hown, hs⟩ := hh
    exact ⟨⟨A, c, he⟩, hs.1, hs.2⟩
  have HF : Hid (∀ k, F k → k < w.heap.size) := h.flt
  have nb := fun w' => Try.supBuild0 w'
  have a25 := fun w' => Try.aggSup w'
  have s25 := fun w' => Try.sizeSup w'
  have HM0 : Hid (MidP w ((w.alloc (.cells #[.int .i64 0, .int .i64 0, .int .i64 0, .int .i64 0, .int .i64 0, .int .i64 0] 25)).alloc (.cells #[.int .i64 0, .int .i64 0, .int .i64 0, .int .i64 0, .int .i64 0, .int .i64 0] 25)) q F d w.heap.size .zero) := midp_start h
  clear ho hl h
  go_enter Try.func18, Try.ntmps18
  go_wp2
  have HM1 := HM0.out
  generalize ((w.alloc (.cells #[.int .i64 0, .int .i64 0, .int .i64 0, .int .i64 0, .int .i64 0, .int .i64 0] 25)).alloc (.cells #[.int .i64 0, .int .i64 0, .int .i64 0, .int .i64 0, .int .i64 0, .int .i64 0] 25)) = W0 at HM1 ⊢
  obtain ⟨g, hg⟩ : ∃ g, g = w.heap.size := ⟨_, rfl⟩
  rw [← hg] at HM1 ⊢
  have HGe : Hid (w.heap.size ≤ g) := by show _ ≤ _; omega
  clear hg HM0
  go_loopw [5, 6, 7, 8, 9, 10] (fun _ _ _ _ _ x wr => x = .int .i64 0 ∧ Hid (MidP w wr q F d g .zero)) (fun _ _ _ _ _ _ _ => 0)
  case atStart => exact ⟨rfl, HM1⟩
  case round =>
    clear HM1
    obtain ⟨rfl, HM⟩ := hrel
    have HRj := Lib.hid (HRd.out wr HM.out.disk)
    have HM2f : Hid (∀ w2, PDisk w2 q F d ∧ Turns wr w2 F F → MidP w w2 q F d g .zero) := fun w2 hh => HM.out.read HF.out HGe.out hh.1 hh.2
    clear HM HRd
    go_wp2_with (first
      | (go_at_call 37; (with_reducible refine HRj.out.mono ?_); rintro e w2 ⟨⟨A2, c2, rfl⟩, hd2⟩; have M2 := HM2f.out w2 hd2; obtain ⟨⟨r0, r1, r2, r3, r4, r5⟩, f0, f1, f2, f3, f4, f5⟩ := M2.r))
    refine bodyPost_ret (v := .tuple #[.agg #[.int .i64 0, .int .i64 0, .int .i64 0, .int .i64 0, .int .i64 0, .int .i64 0], .int .i64 9]) (by simp [results, Try.results18, go_sem, r0, r1, r2, r3, r4, r5]) rfl ⟨by rw [HRU.out]; rfl, ?_⟩
    rw [HRU.out]
    exact ⟨pdisk_up8 M2.disk HF.out (below_six (Below.refl w.heap.size w2) HGe.out _ _ _ _ _ _), turns_up8 M2.turns (below_six (Below.refl w.heap.size w2) HGe.out _ _ _ _ _ _)⟩
theorem supread_any {w : World} {g : Nat} {F : Nat → Prop} {d : Dk} (h : PDisk w g F d) (hl : d.load ≤ 90000) :
    Calls Try.prog 18 #[.pointer (some ⟨g, 0, none⟩)] w fun e w' => e = .returned (.tuple #[supV (readU d).2.1, .int .i64 (readU d).2.2]) ∧ Deeds (readU d).1 F w w' g := by
  cases ho : d.off with
  | true => exact supread_off h ho hl
  | false => exact supread_on h ho hl
set_option maxRecDepth 100000 in
set_option maxHeartbeats 4000000 in
theorem supread_none (w : World) : Calls Try.prog 18 #[.pointer none] w fun e w' => e = .returned (.tuple #[supV .zero, .int .i64 8]) ∧ Below w.heap.size w w' := by
  have HRd : Hid (∀ W, Calls Try.prog 37 #[.pointer none, .int .i64 0] W fun e w' => e = .returned (.tuple #[.slice none 0 0, .int .i64 8]) ∧ W = w') := fun W => read_none 0 W
  have nb := fun w' => Try.supBuild0 w'
  have a25 := fun w' => Try.aggSup w'
  have s25 := fun w' => Try.sizeSup w'
  have HB0 : Hid (Below w.heap.size w ((w.alloc (.cells #[.int .i64 0, .int .i64 0, .int .i64 0, .int .i64 0, .int .i64 0, .int .i64 0] 25)).alloc (.cells #[.int .i64 0, .int .i64 0, .int .i64 0, .int .i64 0, .int .i64 0, .int .i64 0] 25))) := ((Below.refl w.heap.size w).alloc (Nat.le_refl _) (.cells #[.int .i64 0, .int .i64 0, .int .i64 0, .int .i64 0, .int .i64 0, .int .i64 0] 25)).alloc (by simp) (.cells #[.int .i64 0, .int .i64 0, .int .i64 0, .int .i64 0, .int .i64 0, .int .i64 0] 25)
  have HR0 : Hid (ResU ((w.alloc (.cells #[.int .i64 0, .int .i64 0, .int .i64 0, .int .i64 0, .int .i64 0, .int .i64 0] 25)).alloc (.cells #[.int .i64 0, .int .i64 0, .int .i64 0, .int .i64 0, .int .i64 0, .int .i64 0] 25)) w.heap.size) := by
    have hr := Blk.new w 25 #[.int .i64 0, .int .i64 0, .int .i64 0, .int .i64 0, .int .i64 0, .int .i64 0]
    exact resu_at w _ ((Below.refl _ _).alloc (Nat.le_refl _) _)
  go_enter Try.func18, Try.ntmps18
  go_wp2
  have HB1 := HB0.out
  have HR1 := HR0.out
  generalize ((w.alloc (.cells #[.int .i64 0, .int .i64 0, .int .i64 0, .int .i64 0, .int .i64 0, .int .i64 0] 25)).alloc (.cells #[.int .i64 0, .int .i64 0, .int .i64 0, .int .i64 0, .int .i64 0, .int .i64 0] 25)) = W0 at HB1 HR1 ⊢
  obtain ⟨g, hg⟩ : ∃ g, g = w.heap.size := ⟨_, rfl⟩
  rw [← hg] at HR1 ⊢
  have HGq := Lib.hid hg
  clear HB0 HR0 hg
  go_loopw [5, 6, 7, 8, 9, 10] (fun _ _ _ _ _ x wr => x = .int .i64 0 ∧ wr = W0) (fun _ _ _ _ _ _ _ => 0)
  case atStart => exact ⟨rfl, rfl⟩
  case round =>
    obtain ⟨rfl, rfl⟩ := hrel
    obtain ⟨⟨r0, r1, r2, r3, r4, r5⟩, f0, f1, f2, f3, f4, f5⟩ := HR1
    go_wp2_with (first
      | (go_at_call 37; (with_reducible refine (HRd.out _).mono ?_); rintro e w2 ⟨rfl, rfl⟩))
    refine bodyPost_ret (v := .tuple #[.agg #[.int .i64 0, .int .i64 0, .int .i64 0, .int .i64 0, .int .i64 0, .int .i64 0], .int .i64 8]) (by simp [results, Try.results18, go_sem, r0, r1, r2, r3, r4, r5]) rfl ⟨rfl, below_six HB1 (Nat.le_of_eq HGq.out.symm) _ _ _ _ _ _⟩
end Go.Proofs.Ytkockhggnbfahaa
end
section
set_option linter.unusedVariables false
namespace Go.Proofs.Ytkockhggnbfahaa
open Go.RowKit
def stepD (d : Dk) (x : Dd) : Dk := Dk.step d x.kind x.n (dataL x) x.masks
def Did (K : Kps) (w0 : World) (g q : Nat) (d' : Dk) (w' : World) : Prop := ∃ F G B, Two K w0 w' g F d' q G B d'
section
variable {K : Kps} {w0 w w' : World} {g q : Nat} {F G B : Nat → Prop} {d e d' : Dk}
theorem Two.masks {Z : List Int} {A : Option Addr} (h : Two K w0 w g F d q G B e) (hM : RI w0 w0.heap.size A Z) : RI w w.heap.size A Z ∧ (0 < Z.length → ∀ ad, A = some ad → ¬ F ad.block) ∧ (0 < Z.length → ∀ ad, A = some ad → ¬ G ad.block) := by
  refine ⟨fun h0 => ?_, fun h0 ad e' hf => ?_, fun h0 ad e' hf => ?_⟩
  · obtain ⟨b, off, e', hlt, hc⟩ := hM h0
    exact ⟨b, off, e', Nat.lt_of_lt_of_le hlt h.p.below.size, fun k hk => (h.p.below.cell (p := ⟨b, off + k, none⟩) hlt).trans (hc k hk)⟩
  · obtain ⟨b, off, e2, hlt, _⟩ := hM h0
    rw [e'] at e2
    injection e2 with e2
    subst e2
    have := h.p.own _ hf
    simp at this
    omega
  · obtain ⟨b, off, e2, hlt, _⟩ := hM h0
    rw [e'] at e2
    injection e2 with e2
    subst e2
    have := h.go _ hf
    simp at this
    omega
end
theorem read_load (d : Dk) (i : Int) : (d.read i).1.load ≤ d.load + 1 := by
  unfold Dk.read
  split
  · exact Nat.le_succ _
  · split
    · exact Nat.le_succ _
    · show d.reads + 1 + d.writes + d.flushes + d.waits.length ≤ d.reads + d.writes + d.flushes + d.waits.length + 1
      omega
theorem Did.of {K : Kps} {w0 w w' : World} {g q : Nat} {F G B : Nat → Prop} {d d' : Dk} (h : Two K w0 w g F d' q G B d) (hd : RDeeds d' G B w w' q) : Did K w0 g q d' w' := by
  obtain ⟨G', B', hT⟩ := h.ref hd
  exact ⟨F, G', B', hT⟩
def DB (W : World) (g5 : Nat) (x : Dd) (dA : Option Addr) (dc : Nat) (mA : Option Addr) (mc : Nat) : Prop := Blk W g5 53 #[.int .i64 x.kind, .int .i64 x.n, .slice dA x.data.length dc, .bool x.odd, .slice mA x.masks.length mc]
theorem DB.c0 {W : World} {g5 : Nat} {x : Dd} {dA mA : Option Addr} {dc mc : Nat} (h : DB W g5 x dA dc mA mc) : W.cell? ⟨g5, 0, none⟩ = some (.int .i64 x.kind) := by rw [Blk.cell h]; rfl
theorem DB.c1 {W : World} {g5 : Nat} {x : Dd} {dA mA : Option Addr} {dc mc : Nat} (h : DB W g5 x dA dc mA mc) : W.cell? ⟨g5, 1, none⟩ = some (.int .i64 x.n) := by rw [Blk.cell h]; rfl
theorem DB.c2 {W : World} {g5 : Nat} {x : Dd} {dA mA : Option Addr} {dc mc : Nat} (h : DB W g5 x dA dc mA mc) : W.cell? ⟨g5, 2, none⟩ = some (.slice dA x.data.length dc) := by rw [Blk.cell h]; rfl
theorem DB.c3 {W : World} {g5 : Nat} {x : Dd} {dA mA : Option Addr} {dc mc : Nat} (h : DB W g5 x dA dc mA mc) : W.cell? ⟨g5, 3, none⟩ = some (.bool x.odd) := by rw [Blk.cell h]; rfl
theorem DB.c4 {W : World} {g5 : Nat} {x : Dd} {dA mA : Option Addr} {dc mc : Nat} (h : DB W g5 x dA dc mA mc) : W.cell? ⟨g5, 4, none⟩ = some (.slice mA x.masks.length mc) := by rw [Blk.cell h]; rfl
section
variable {K : Kps} {w0 w : World} {g q : Nat} {F G B : Nat → Prop} {d : Dk} (h : Two K w0 w g F d q G B d) (hl : d.load ≤ 90000) (x : Dd) (dA mA : Option Addr) (dc mc : Nat) (hv : DV w0 x dA dc mA mc) (hx : x.data.length ≤ 100000)
include h hl hv hx
set_option maxRecDepth 100000 in
set_option maxHeartbeats 4000000 in
theorem do_any : Calls Try.prog 17 #[.pointer (some ⟨g, 0, none⟩), .pointer (some ⟨q, 0, none⟩), deedV x dA dc mA mc] w fun e w' => e = .returned (.bool true) ∧ Did K w0 g q (stepD d x) w' := by
  have HV := Lib.hid hv
  have hFg : ¬ F w.heap.size := fun hf => by have := h.p.flt _ hf; omega
  have hGg : ¬ G w.heap.size := fun hf => by have := h.r.glt _ hf; omega
  have hbb : Below w.heap.size w (w.alloc (.cells #[.int .i64 x.kind, .int .i64 x.n, .slice dA x.data.length dc, .bool x.odd, .slice mA x.masks.length mc] 53)) := (Below.refl _ _).alloc (Nat.le_refl _) _
  have hDB : DB (w.alloc (.cells #[.int .i64 x.kind, .int .i64 x.n, .slice dA x.data.length dc, .bool x.odd, .slice mA x.masks.length mc] 53)) w.heap.size x dA dc mA mc := Blk.new w _ _
  have hT := h.more hbb
  have hX := hx
  by_cases k1 : x.kind = 1
  · obtain ⟨d', L, r, hq⟩ : ∃ d' L r, d.read x.n = (d', L, r) := ⟨_, _, _, rfl⟩
    have HQ : Hid (stepD d x = d') := by show _ = _; unfold stepD Dk.step; rw [if_pos k1, hq]
    have HP : Hid (∀ W, Two K w0 W g F d q G B d → Calls Try.prog 37 #[.pointer (some ⟨g, 0, none⟩), .int .i64 x.n] W fun e w' => (∃ A m c, e = .returned (.tuple #[.slice A m c, .int .i64 r]) ∧ Hid (m = L.length ∧ Kept w' F A L ∧ Kept w' G A L)) ∧ Two K w0 w' g F d' q G B d ∧ Turns W w' F F) := fun W hW =>
      (read_any hW.p.disk x.n (by omega)).mono fun e w' hh => by
        obtain ⟨A, c, he, ho, hd⟩ := hh
        rw [hq] at he ho hd
        exact ⟨⟨A, L.length, c, he, rfl, Kept.read ho hW.p.flt, Kept.read ho hW.r.glt⟩, hW.deeds hd, hd.2⟩
    have HR : Hid (∀ W (A0 : Option Addr), Two K w0 W g F d' q G B d → Kept W G A0 L → Calls Try.prog 45 #[.pointer (some ⟨q, 0, none⟩), .int .i64 x.n] W fun e w' => (∃ A m c, e = .returned (.tuple #[.slice A m c, .int .i64 r]) ∧ Hid (m = L.length ∧ RB w' w'.heap.size A L ∧ RB w' w'.heap.size A0 L)) ∧ Did K w0 g q d' w') := fun W A0 hW hk =>
      (rread_any hW.r x.n (by omega)).mono fun e w' hh => by
        obtain ⟨A, c, he, ho, hd⟩ := hh
        rw [hq] at he ho hd
        have hd' := hd.deeds
        exact ⟨⟨A, L.length, c, he, rfl, own_rb ho, hW.kept hd' hk⟩, Did.of hW hd'⟩
    have HTw := Lib.hid hT
    have HDB := Lib.hid hDB
    have HFg : Hid (¬ F w.heap.size ∧ w.heap.size = w.heap.size) := ⟨hFg, rfl⟩
    have kb1 : (x.kind == 1) = true := by rw [k1]; rfl
    unfold deedV
    clear h hl hv hx hX hT hDB hFg hGg hbb hq k1
    go_enter Try.func17, Try.ntmps17
    go_wp2_with (first
      | (go_at_call 37; (with_reducible refine (HP.out _ HTw.out).mono ?_); rintro e w1 ⟨⟨A1, m1, c1, rfl, hk1⟩, hT1, ht1⟩; have b1 := DB.c1 (Blk.turns HDB.out ht1 HFg.out.1))
      | (go_at_call 45; (with_reducible refine (HR.out _ A1 hT1 hk1.out.2.2).mono ?_); rintro e w2 ⟨⟨A2, m2, c2, rfl, hk2⟩, hT2⟩; have s1 := aw_str hk2.out.2.1 m2 c2 hk2.out.1; have s2 := aw_str hk2.out.2.2 m1 c1 hk1.out.1; have HT2 := Lib.hid hT2; clear hT1 hT2))
    go_ret
    rw [HQ.out]
    exact ⟨rfl, HT2.out⟩
  · have kb1 : (x.kind == 1) = false := by simpa using k1
    by_cases k2 : x.kind = 2
    · have kb2 : (x.kind == 2) = true := by rw [k2]; rfl
      obtain ⟨d', r, hq⟩ : ∃ d' r, d.write x.n (dataL x) = (d', r) := ⟨_, _, rfl⟩
      have HQ : Hid (stepD d x = d') := by show _ = _; unfold stepD Dk.step; rw [if_neg k1, if_pos k2, hq]
      have HDa : Hid (∀ W, Below w0.heap.size w0 W → Calls Try.prog 46 #[.agg #[.int .i64 x.kind, .int .i64 x.n, .slice dA x.data.length dc, .bool x.odd, .slice mA x.masks.length mc]] W fun e w' => (∃ A m c, e = .returned (.slice A m c) ∧ Hid (m = (dataL x).length ∧ m ≤ c ∧ c ≤ 9223372036854775807 ∧ RB w' w'.heap.size A (dataL x) ∧ (0 < (dataL x).length → ∀ ad, A = some ad → ad.block < w0.heap.size ∨ W.heap.size ≤ ad.block))) ∧ Below W.heap.size W w') := fun W hW =>
        (data_any hW x dA dc mA mc hv hx).mono fun e w' hh => by
          obtain ⟨⟨A, m, c, he, h1⟩, h2⟩ := hh
          exact ⟨⟨A, m, c, he, h1⟩, h2⟩
      have HP : Hid (∀ W W1 A m c, Two K w0 W g F d q G B d → Below W.heap.size W W1 → Hid (m = (dataL x).length ∧ m ≤ c ∧ c ≤ 9223372036854775807 ∧ RB W1 W1.heap.size A (dataL x) ∧ (0 < (dataL x).length → ∀ ad, A = some ad → ad.block < w0.heap.size ∨ W.heap.size ≤ ad.block)) → Calls Try.prog 38 #[.pointer (some ⟨g, 0, none⟩), .int .i64 x.n, .slice A m c] W1 fun e w' => e = .returned (.int .i64 r) ∧ ∃ F', Two K w0 w' g F' d' q G B d ∧ Turns W1 w' F F') := fun W W1 A m c hW hb hh => by
        obtain ⟨h1, h2, h3, h4, h5⟩ := hh.out
        have hW1 := hW.more hb
        refine (write_all hW1.p.disk x.n (by omega) (dataL x) A m c h1 h4 (fun h0 ad e hf => ?_) h2 h3).mono fun e w' hh => ?_
        · rcases h5 h0 ad e with h6 | h6
          · have := hW.p.own _ hf; omega
          · have := hW.p.flt _ hf; omega
        · obtain ⟨F', he, hp, ht⟩ := hh
          rw [hq] at he hp
          exact ⟨he, F', hW1.prog hp ht, ht⟩
      have HR : Hid (∀ W W1 F' A m c, Two K w0 W g F' d' q G B d → Below W.heap.size W W1 → Hid (m = (dataL x).length ∧ m ≤ c ∧ c ≤ 9223372036854775807 ∧ RB W1 W1.heap.size A (dataL x) ∧ (0 < (dataL x).length → ∀ ad, A = some ad → ad.block < w0.heap.size ∨ W.heap.size ≤ ad.block)) → Calls Try.prog 47 #[.pointer (some ⟨q, 0, none⟩), .int .i64 x.n, .slice A m c] W1 fun e w' => e = .returned (.int .i64 r) ∧ Did K w0 g q d' w' ∧ Hid (∃ G', Turns W1 w' G G')) := fun W W1 F' A m c hW hb hh => by
        obtain ⟨h1, h2, h3, h4, h5⟩ := hh.out
        have hW1 := hW.more hb
        refine (rwrite_any hW1.r x.n (by omega) (dataL x) A m c h1 h4).mono fun e w' hh => ?_
        obtain ⟨he, hd⟩ := hh
        rw [hq] at he hd
        obtain ⟨G', B', hr, ht, hb'⟩ := hd
        exact ⟨he, Did.of hW1 ⟨G', B', hr, ht, hb'⟩, G', ht⟩
      have HFive : Hid (∀ W, DB W w.heap.size x dA dc mA mc → W.cell? ⟨w.heap.size, 0, none⟩ = some (.int .i64 x.kind) ∧ W.cell? ⟨w.heap.size, 1, none⟩ = some (.int .i64 x.n) ∧ W.cell? ⟨w.heap.size, 2, none⟩ = some (.slice dA x.data.length dc) ∧ W.cell? ⟨w.heap.size, 3, none⟩ = some (.bool x.odd) ∧ W.cell? ⟨w.heap.size, 4, none⟩ = some (.slice mA x.masks.length mc)) := fun W hW => ⟨hW.c0, hW.c1, hW.c2, hW.c3, hW.c4⟩
      have HTw := Lib.hid hT
      have HDB := Lib.hid hDB
      have HFg : Hid (¬ F w.heap.size ∧ ¬ G w.heap.size) := ⟨hFg, hGg⟩
      unfold deedV
      clear h hl hv hx hX hT hDB hFg hGg hbb hq k1 k2
      go_enter Try.func17, Try.ntmps17
      go_wp2
      generalize (w.alloc (.cells #[.int .i64 x.kind, .int .i64 x.n, .slice dA x.data.length dc, .bool x.odd, .slice mA x.masks.length mc] 53)) = W0 at HTw HDB ⊢
      have t0 : Two K w0 W0.drew g F d q G B d := HTw.out.more (Below.refl _ _).drew
      have db0 : DB W0.drew w.heap.size x dA dc mA mc := HDB.out
      have HS0 := Lib.hid (HFive.out _ db0)
      go_region_held3 (fun w' => w'.cell? ⟨w.heap.size, 0, none⟩ = some (.int .i64 x.kind) ∧ w'.cell? ⟨w.heap.size, 1, none⟩ = some (.int .i64 x.n) ∧ w'.cell? ⟨w.heap.size, 2, none⟩ = some (.slice dA x.data.length dc) ∧ w'.cell? ⟨w.heap.size, 3, none⟩ = some (.bool x.odd) ∧ w'.cell? ⟨w.heap.size, 4, none⟩ = some (.slice mA x.masks.length mc))
        (first | exact HS0.out | exact HS1.out | exact HS2.out | exact HS3.out | exact HS4.out)
        (first
          | (go_at_call 47; (with_reducible refine (HR.out _ _ _ _ _ _ t2 hb3 hd3).mono ?_); rintro e w4 ⟨rfl, hD4, ht4⟩; have HD4 := Lib.hid hD4; obtain ⟨G4, ht4⟩ := ht4.out; have HS4 := Lib.hid (HFive.out w4 (Blk.turns db3 ht4 HFg.out.2)))
          | (go_at_call 46; (with_reducible refine (HDa.out _ t2.p.below).mono ?_); rintro e w3 ⟨⟨A3, m3, c3, rfl, hd3⟩, hb3⟩; have db3 : DB w3 w.heap.size x dA dc mA mc := Blk.below db2 hb3 (Blk.lt db2); have HS3 := Lib.hid (HFive.out w3 db3))
          | (go_at_call 38; (with_reducible refine (HP.out _ _ _ _ _ t0 hb1 hd1).mono ?_); rintro e w2 ⟨rfl, F2, t2, ht2⟩; have db2 : DB w2 w.heap.size x dA dc mA mc := Blk.turns db1 ht2 HFg.out.1; have HS2 := Lib.hid (HFive.out w2 db2))
          | (go_at_call 46; (with_reducible refine (HDa.out _ t0.p.below).mono ?_); rintro e w1 ⟨⟨A1, m1, c1, rfl, hd1⟩, hb1⟩; have db1 : DB w1 w.heap.size x dA dc mA mc := Blk.below db0 hb1 (Blk.lt db0); have HS1 := Lib.hid (HFive.out w1 db1)))
      go_wp2
      go_ret
      rw [HQ.out]
      exact ⟨rfl, HD4.out⟩
    · have kb2 : (x.kind == 2) = false := by simpa using k2
      by_cases k3 : x.kind = 3
      · have kb3 : (x.kind == 3) = true := by rw [k3]; rfl
        obtain ⟨d', r, hq⟩ : ∃ d' r, d.flush = (d', r) := ⟨_, _, rfl⟩
        have HQ : Hid (stepD d x = d') := by show _ = _; unfold stepD Dk.step; rw [if_neg k1, if_neg k2, if_pos k3, hq]
        have HP : Hid (∀ W, Two K w0 W g F d q G B d → Calls Try.prog 48 #[.pointer (some ⟨g, 0, none⟩)] W fun e w' => e = .returned (.int .i64 r) ∧ Two K w0 w' g F d' q G B d) := fun W hW =>
          (flush_any hW.p.disk (by omega)).mono fun e w' hh => by
            rw [hq] at hh
            exact ⟨hh.1, hW.deeds hh.2⟩
        have HR : Hid (∀ W, Two K w0 W g F d' q G B d → Calls Try.prog 49 #[.pointer (some ⟨q, 0, none⟩)] W fun e w' => e = .returned (.int .i64 r) ∧ Did K w0 g q d' w') := fun W hW =>
          (rflush_any hW.r (by omega)).mono fun e w' hh => by
            rw [hq] at hh
            exact ⟨hh.1, Did.of hW hh.2.deeds⟩
        have HTw := Lib.hid hT
        unfold deedV
        clear h hl hv hx hX hT hDB hFg hGg hbb hq k1 k2 k3
        go_enter Try.func17, Try.ntmps17
        go_wp2_with (first
          | (go_at_call 48; (with_reducible refine (HP.out _ HTw.out).mono ?_); rintro e w1 ⟨rfl, hT1⟩)
          | (go_at_call 49; (with_reducible refine (HR.out _ hT1).mono ?_); rintro e w2 ⟨rfl, hD2⟩; have HD2 := Lib.hid hD2; clear hT1 hD2))
        go_ret
        rw [HQ.out]
        exact ⟨rfl, HD2.out⟩
      · have kb3 : (x.kind == 3) = false := by simpa using k3
        by_cases k4 : x.kind = 4
        · have kb4 : (x.kind == 4) = true := by rw [k4]; rfl
          obtain ⟨d', r, hq⟩ : ∃ d' r, d.stop x.n = (d', r) := ⟨_, _, rfl⟩
          have HQ : Hid (stepD d x = d') := by show _ = _; unfold stepD Dk.step; rw [if_neg k1, if_neg k2, if_neg k3, if_pos k4, hq]
          have HP : Hid (∀ W, Two K w0 W g F d q G B d → Calls Try.prog 25 #[.pointer (some ⟨g, 0, none⟩), .int .i64 x.n] W fun e w' => e = .returned (.int .i64 r) ∧ Two K w0 w' g F d' q G B d ∧ Turns W w' F F) := fun W hW =>
            (stop_any hW.p.disk x.n hv.nin).mono fun e w' hh => by
              rw [hq] at hh
              exact ⟨hh.1, hW.deeds hh.2, hh.2.2⟩
          have HR : Hid (∀ W, Two K w0 W g F d' q G B d → Calls Try.prog 50 #[.pointer (some ⟨q, 0, none⟩), .int .i64 x.n] W fun e w' => e = .returned (.int .i64 r) ∧ Did K w0 g q d' w' ∧ Turns W w' G G) := fun W hW =>
            (rstop_any hW.r x.n hv.nin).mono fun e w' hh => by
              rw [hq] at hh
              exact ⟨hh.1, Did.of hW hh.2.deeds, hh.2.2⟩
          have HTw := Lib.hid hT
          have HDB := Lib.hid hDB
          have HFg : Hid (¬ F w.heap.size ∧ ¬ G w.heap.size) := ⟨hFg, hGg⟩
          unfold deedV
          clear h hl hv hx hX hT hDB hFg hGg hbb hq k1 k2 k3 k4
          go_enter Try.func17, Try.ntmps17
          go_wp2
          generalize (w.alloc (.cells #[.int .i64 x.kind, .int .i64 x.n, .slice dA x.data.length dc, .bool x.odd, .slice mA x.masks.length mc] 53)) = W0 at HTw HDB ⊢
          have t0 : Two K w0 W0.drew g F d q G B d := HTw.out.more (Below.refl _ _).drew
          have db0 : DB W0.drew w.heap.size x dA dc mA mc := HDB.out
          have HS0 := Lib.hid (DB.c1 db0)
          go_region_held3 (fun w' => w'.cell? ⟨w.heap.size, 1, none⟩ = some (.int .i64 x.n))
            (first | exact HS0.out | exact HS1.out | exact HS2.out)
            (first
              | (go_at_call 50; (with_reducible refine (HR.out _ t1).mono ?_); rintro e w2 ⟨rfl, hD2, ht2⟩; have HD2 := Lib.hid hD2; have HS2 := Lib.hid (DB.c1 (Blk.turns db1 ht2 HFg.out.2)))
              | (go_at_call 25; (with_reducible refine (HP.out _ t0).mono ?_); rintro e w1 ⟨rfl, t1, ht1⟩; have db1 : DB w1 w.heap.size x dA dc mA mc := Blk.turns db0 ht1 HFg.out.1; have HS1 := Lib.hid (DB.c1 db1)))
          go_wp2
          go_ret
          rw [HQ.out]
          exact ⟨rfl, HD2.out⟩
        · have kb4 : (x.kind == 4) = false := by simpa using k4
          by_cases k5 : x.kind = 5
          · have kb5 : (x.kind == 5) = true := by rw [k5]; rfl
            have HQ : Hid (stepD d x = d.crash x.masks) := by show _ = _; unfold stepD Dk.step; rw [if_neg k1, if_neg k2, if_neg k3, if_neg k4, if_pos k5]
            have HP : Hid (∀ W, Two K w0 W g F d q G B d → Calls Try.prog 26 #[.pointer (some ⟨g, 0, none⟩), .slice mA x.masks.length mc] W fun e w' => e = .returned (.tuple #[]) ∧ Two K w0 w' g F (d.crash x.masks) q G B d ∧ Turns W w' F F) := fun W hW => by
              obtain ⟨h1, h2, h3⟩ := hW.masks hv.ri
              refine (crash_any hW.p.disk x.masks mA x.masks.length mc rfl h1 h2).mono fun e w' hh => ?_
              exact ⟨hh.1, hW.deeds hh.2, hh.2.2⟩
            have HR : Hid (∀ W, Two K w0 W g F (d.crash x.masks) q G B d → Calls Try.prog 51 #[.pointer (some ⟨q, 0, none⟩), .slice mA x.masks.length mc] W fun e w' => e = .returned (.tuple #[]) ∧ Did K w0 g q (d.crash x.masks) w') := fun W hW => by
              obtain ⟨h1, h2, h3⟩ := hW.masks hv.ri
              refine (rcrash_any hW.r x.masks mA x.masks.length mc rfl h1 h3 (by omega)).mono fun e w' hh => ?_
              exact ⟨hh.1, Did.of hW hh.2⟩
            have HTw := Lib.hid hT
            have HDB := Lib.hid hDB
            have HFg : Hid (¬ F w.heap.size ∧ ¬ G w.heap.size) := ⟨hFg, hGg⟩
            unfold deedV
            clear h hl hv hx hX hT hDB hFg hGg hbb k1 k2 k3 k4 k5
            go_enter Try.func17, Try.ntmps17
            go_wp2_with (first
              | (go_at_call 26; (with_reducible refine (HP.out _ HTw.out).mono ?_); rintro e w1 ⟨rfl, hT1, ht1⟩; have b4 := DB.c4 (Blk.turns HDB.out ht1 HFg.out.1))
              | (go_at_call 51; (with_reducible refine (HR.out _ hT1).mono ?_); rintro e w2 ⟨rfl, hD2⟩; have HD2 := Lib.hid hD2; clear hT1 hD2))
            go_ret
            rw [HQ.out]
            exact ⟨rfl, HD2.out⟩
          · have kb5 : (x.kind == 5) = false := by simpa using k5
            have HQ : Hid (stepD d x = d) := by show _ = _; unfold stepD Dk.step; rw [if_neg k1, if_neg k2, if_neg k3, if_neg k4, if_neg k5]
            have HTw : Hid (Did K w0 g q d (w.alloc (.cells #[.int .i64 x.kind, .int .i64 x.n, .slice dA x.data.length dc, .bool x.odd, .slice mA x.masks.length mc] 53))) := ⟨F, G, B, hT⟩
            unfold deedV
            clear h hl hv hx hX hT hDB hFg hGg hbb k1 k2 k3 k4 k5
            go_enter Try.func17, Try.ntmps17
            go_wp2
            go_ret
            rw [HQ.out]
            exact ⟨rfl, HTw.out⟩
end
end Go.Proofs.Ytkockhggnbfahaa
end
