/- The walk of layer 11's awake. -/
import Derived.Test.YtibaaideleinhaaDoorPoolProg
import Derived.Test.YtibaaideleinhaaDoorIntsEq
import Derived.Test.YtibaaideleinhaaDoorPoolROdd
set_option linter.unusedVariables false
namespace Go.Proofs.YtibaaideleinhaaDoor
open Go.RowKit

theorem ri_two11 (w : World) (a b : Int) (t : TypeId) : RI (w.alloc (.cells #[.int .i64 a, .int .i64 b] t)) (w.alloc (.cells #[.int .i64 a, .int .i64 b] t)).heap.size (some ⟨w.heap.size, 0, none⟩) [a, b] := fun _ => by
  have h0 := Blk.new w t #[.int .i64 a, .int .i64 b]
  refine ⟨w.heap.size, 0, rfl, by simp, fun k hk => ?_⟩
  rw [h0.cell]
  match k, hk with
  | 0, _ => rfl
  | 1, _ => rfl
theorem ri_one11 (w : World) (a : Int) (t : TypeId) : RI (w.alloc (.cells #[.int .i64 a] t)) (w.alloc (.cells #[.int .i64 a] t)).heap.size (some ⟨w.heap.size, 0, none⟩) [a] := fun _ => by
  have h0 := Blk.new w t #[.int .i64 a]
  refine ⟨w.heap.size, 0, rfl, by simp, fun k hk => ?_⟩
  rw [h0.cell]
  match k, hk with
  | 0, _ => rfl
def awP0 : Pl := ⟨3, [false, false, false, false, false, false]⟩
def awP1 : Pl := ⟨3, [true, true, false, false, false, false]⟩
def awP2 : Pl := ⟨3, [false, true, false, false, false, false]⟩
theorem awp_made : Pl.made 3 9 = awP0 := rfl
theorem awp_take : awP0.take 2 = (awP1, [3, 4], 0) := rfl
theorem awp_m1 : awP1.mark [4, 5] = (awP1, 7) := rfl
theorem awp_m2 : awP1.mark [5, 5] = (awP1, 7) := rfl
theorem awp_m3 : awP1.mark [2] = (awP1, 10) := rfl
theorem awp_g1 : awP1.give [3] = (awP2, 0) := rfl
theorem awp_g2 : awP2.give [3] = (awP2, 6) := rfl
theorem awp_t6 : awP2.take 6 = (awP2, [], 2) := rfl
theorem inz_small {z : Int} (h : -1000000 ≤ z ∧ z ≤ 1000000) : InZ z := by unfold InZ; omega
/-- The pool of a walk: all that is its own lies behind w. -/
structure Pa (w W : World) (g : Nat) (F : Nat → Prop) (p : Pl) : Prop where
  pp : PPool W g F p
  own : ∀ k, F k → w.heap.size ≤ k
  below : Below w.heap.size w W
section
variable {w W W' : World} {g : Nat} {F F' : Nat → Prop} {p p' : Pl}
theorem Pa.turned (h : Pa w W g F p) (hp : PPool W' g F' p') (ht : Turns W W' F F') : Pa w W' g F' p' := ⟨hp, fun k hk => by
  rcases ht.foot _ hk with h1 | h1
  · exact h.own k h1
  · have := h.below.size; omega, h.below.trans (ht.below h.own h.below.size)⟩
theorem Pa.more (h : Pa w W g F p) (hb : Below W.heap.size W W') : Pa w W' g F p := h.turned (h.pp.turns (Turns.of_below hb (fun _ => False)) (fun _ _ h => h) (fun h => h)) (Turns.of_below hb F)
theorem Pa.alloc (h : Pa w W g F p) (o : Obj) : Pa w (W.alloc o) g F p := h.more ((Below.refl _ _).alloc (Nat.le_refl _) o)
end
def KeptP (w : World) (F : Nat → Prop) (A : Option Addr) (Z : List Int) : Prop := RI w w.heap.size A Z ∧ ∀ ad, A = some ad → ¬ F ad.block
theorem KeptP.turns {w w' : World} {F F' : Nat → Prop} {A : Option Addr} {Z : List Int} (h : KeptP w F A Z) (h0 : 0 < Z.length) (ht : Turns w w' F F') : KeptP w' F' A Z := by
  obtain ⟨b, off, rfl, hlt, hc⟩ := h.1 h0
  have hn := h.2 _ rfl
  refine ⟨fun _ => ⟨b, off, rfl, Nat.lt_of_lt_of_le hlt ht.size, fun k hk => (ht.cell (p := ⟨b, off + k, none⟩) hlt hn).trans (hc k hk)⟩, fun ad e hf => ?_⟩
  injection e with e
  subst e
  rcases ht.foot _ hf with h1 | h1
  · exact hn h1
  · simp at h1; omega
/-- The pool, and the list that was taken. -/
structure Pl2 (w W : World) (g : Nat) (F : Nat → Prop) (p : Pl) (A : Option Addr) : Prop where
  s : Pa w W g F p
  l : KeptP W F A [3, 4]
theorem Pl2.turned {w W W' : World} {g : Nat} {F F' : Nat → Prop} {p p' : Pl} {A : Option Addr} (h : Pl2 w W g F p A) (hp : PPool W' g F' p') (ht : Turns W W' F F') : Pl2 w W' g F' p' A := ⟨h.s.turned hp ht, h.l.turns (by decide) ht⟩
theorem Pl2.more {w W W' : World} {g : Nat} {F : Nat → Prop} {p : Pl} {A : Option Addr} (h : Pl2 w W g F p A) (hb : Below W.heap.size W W') : Pl2 w W' g F p A := h.turned (h.s.pp.turns (Turns.of_below hb (fun _ => False)) (fun _ _ h => h) (fun h => h)) (Turns.of_below hb F)
theorem Pl2.alloc {w W : World} {g : Nat} {F : Nat → Prop} {p : Pl} {A : Option Addr} (h : Pl2 w W g F p A) (o : Obj) : Pl2 w (W.alloc o) g F p A := h.more ((Below.refl _ _).alloc (Nat.le_refl _) o)
set_option maxRecDepth 100000 in
set_option maxHeartbeats 4000000 in
theorem awake11_any (w : World) (hT : Tq w) : Calls Tryd.prog 9 #[] w fun e w' => e = .returned (.bool true) ∧ Below w.heap.size w w' := by
  have HO : Hid (Calls Tryd.prog 6 #[.int .i64 3, .int .i64 9] w fun e w' => ∃ g F, e = .returned (.tuple #[.pointer (some ⟨g, 0, none⟩), .int .i64 0]) ∧ Pa w w' g F awP0) := (pof_yes 3 9 w (by decide) hT).mono fun e w' hh => by
    obtain ⟨g, F, he, h1, h2, h3⟩ := hh
    exact ⟨g, F, he, h1, h3, h2⟩
  have HO2 : Hid (∀ W, Calls Tryd.prog 6 #[.int .i64 3, .int .i64 2] W fun e w' => e = .returned (.tuple #[.pointer none, .int .i64 1]) ∧ Below W.heap.size W w') := fun W => pof_no 3 2 W (by decide)
  have HT : Hid (∀ W g F, Pa w W g F awP0 → Calls Tryd.prog 12 #[.pointer (some ⟨g, 0, none⟩), .int .i64 2] W fun e w' => ∃ F' A c, e = .returned (.tuple #[.slice A 2 c, .int .i64 0]) ∧ Pl2 w w' g F' awP1 A) := fun W g F h => (ptake_any h.pp 2 (inz_small (by omega))).mono fun e w' hh => by
    obtain ⟨F', A, c, he, hp, ht, hr, hn, _⟩ := hh
    rw [awp_take] at he hp hr
    exact ⟨F', A, c, he, h.turned hp ht, hr, hn⟩
  have HM : Hid (∀ (L : List Int) (r : Int) (W : World) (g m a : Nat) (F : Nat → Prop) (A : Option Addr), awP1.mark L = (awP1, r) → m = L.length → m ≤ 5 → (∀ z ∈ L, InZ z) → Pl2 w W g F awP1 A → RI W W.heap.size (some ⟨a, 0, none⟩) L → ¬ F a → Calls Tryd.prog 17 #[.pointer (some ⟨g, 0, none⟩), .slice (some ⟨a, 0, none⟩) m m] W fun e w' => ∃ F', e = .returned (.int .i64 r) ∧ Pl2 w w' g F' awP1 A) := fun L r W g m a F A hv hm hm5 hz h hr hn => (pmark_any h.s.pp L _ m m hm (by omega) hr (fun _ ad e hf => by injection e with e; subst e; exact hn hf) hz).mono fun e w' hh => by
    obtain ⟨F', he, hp, ht⟩ := hh
    rw [hv] at he hp
    exact ⟨F', he, h.turned hp ht⟩
  have HG : Hid (∀ (p q : Pl) (r : Int) (W : World) (g a : Nat) (F : Nat → Prop) (A : Option Addr), p.give [3] = (q, r) → Pl2 w W g F p A → RI W W.heap.size (some ⟨a, 0, none⟩) [3] → ¬ F a → Calls Tryd.prog 13 #[.pointer (some ⟨g, 0, none⟩), .slice (some ⟨a, 0, none⟩) 1 1] W fun e w' => ∃ F', e = .returned (.int .i64 r) ∧ Pl2 w w' g F' q A) := fun p q r W g a F A hv h hr hn => (pgive_any h.s.pp [3] _ 1 1 rfl (by omega) hr (fun _ ad e hf => by injection e with e; subst e; exact hn hf) (fun z hz => inz_small (by simp at hz; omega))).mono fun e w' hh => by
    obtain ⟨F', he, hp, ht⟩ := hh
    rw [hv] at he hp
    exact ⟨F', he, h.turned hp ht⟩
  have HT6 : Hid (∀ W g F A, Pl2 w W g F awP2 A → Calls Tryd.prog 12 #[.pointer (some ⟨g, 0, none⟩), .int .i64 6] W fun e w' => ∃ F' B c, e = .returned (.tuple #[.slice B 0 c, .int .i64 2]) ∧ Pl2 w w' g F' awP2 A) := fun W g F A h => (ptake_any h.s.pp 6 (inz_small (by omega))).mono fun e w' hh => by
    obtain ⟨F', B, c, he, hp, ht, hr, hn, _⟩ := hh
    rw [awp_t6] at he hp
    exact ⟨F', B, c, he, h.turned hp ht⟩
  have HC : Hid (∀ W g F A, Pl2 w W g F awP2 A → Calls Tryd.prog 16 #[.pointer (some ⟨g, 0, none⟩)] W fun e w' => ∃ g2, e = .returned (.pointer (some ⟨g2, 0, none⟩)) ∧ Calls Tryd.prog 12 #[.pointer (some ⟨g2, 0, none⟩), .int .i64 1] w' fun e w3 => ∃ v F2 p2, e = .returned v ∧ PPool w3 g2 F2 p2 ∧ p2.has 3 = true ∧ Pl2 w w3 g F awP2 A) := fun W g F A h => (pclone_any h.s.pp).mono fun e w' hh => by
    obtain ⟨g2, F2, he, hp, hb, ho⟩ := hh
    have h2 := h.more hb
    refine ⟨g2, he, (ptake_any hp 1 (inz_small (by omega))).mono fun e w3 hh => ?_⟩
    obtain ⟨F3, B, c, he, hp3, ht, hr, hn, _⟩ := hh
    have hdis : ∀ k, F k → ¬ F2 k := fun k hk hk2 => by
      have := ho k hk2; have := h.s.pp.flt k hk; omega
    refine ⟨_, F3, _, he, hp3, rfl, ⟨⟨h2.s.pp.turns ht hdis hp.tab, h2.s.own, h2.s.below.trans (ht.below (fun k hk => by have := ho k hk; have := h.s.below.size; omega) h2.s.below.size)⟩, ?_, h2.l.2⟩⟩
    obtain ⟨b, off, e0, hlt, hc⟩ := h.l.1 (by decide)
    subst e0
    have hlt2 := Nat.lt_of_lt_of_le hlt hb.size
    have hnb : ¬ F2 b := fun hf => by have := ho b hf; omega
    exact fun _ => ⟨b, off, rfl, Nat.lt_of_lt_of_le hlt2 ht.size, fun k hk => (ht.cell (p := ⟨b, off + k, none⟩) hlt2 hnb).trans ((hb.cell (p := ⟨b, off + k, none⟩) hlt).trans (hc k hk))⟩
  have HFr : Hid (∀ W g F A, Pl2 w W g F awP2 A → Calls Tryd.prog 14 #[.pointer (some ⟨g, 0, none⟩)] W fun e w' => e = .returned (.int .i64 5) ∧ Below W.heap.size W w') := fun W g F A h => pfree_any h.s.pp
  have HTk : Hid (∀ W g F A, Pl2 w W g F awP2 A → Calls Tryd.prog 15 #[.pointer (some ⟨g, 0, none⟩)] W fun e w' => ∃ B c, e = .returned (.slice B 1 c) ∧ Hid (RI w' w'.heap.size B [4]) ∧ Below W.heap.size W w') := fun W g F A h => (ptaken_any h.s.pp).mono fun e w' hh => by
    obtain ⟨B, c, he, r1, _, _, b1⟩ := hh
    exact ⟨B, c, he, r1, b1⟩
  have HH : Hid (∀ W g F (p : Pl) (b : Int) (v : Bool), PPool W g F p → p.has b = v → InZ b → Calls Tryd.prog 18 #[.pointer (some ⟨g, 0, none⟩), .int .i64 b] W fun e w' => e = .returned (.bool v) ∧ Below W.heap.size W w') := fun W g F p b v hp hv hb => by rw [← hv]; exact phas_any hp b hb
  have HI2 : Hid (∀ W (A C : Option Addr) (c d : Nat), RI W W.heap.size A [3, 4] → RI W W.heap.size C [3, 4] → Calls Tryd.prog 20 #[.slice A 2 c, .slice C 2 d] W fun e w' => e = .returned (.bool true) ∧ Below W.heap.size W w') := fun W A C c d h1 h2 => intsq_any [3, 4] A C 2 c d _ W rfl h1 h2 (by omega)
  have HI1 : Hid (∀ W (A C : Option Addr) (c d : Nat), RI W W.heap.size A [4] → RI W W.heap.size C [4] → Calls Tryd.prog 20 #[.slice A 1 c, .slice C 1 d] W fun e w' => e = .returned (.bool true) ∧ Below W.heap.size W w') := fun W A C c d h1 h2 => intsq_any [4] A C 1 c d _ W rfl h1 h2 (by omega)
  have z2 : Hid (∀ a b : Int, (-1000 ≤ a ∧ a ≤ 1000) ∧ -1000 ≤ b ∧ b ≤ 1000 → ∀ z ∈ [a, b], InZ z) := fun a b h z hz => inz_small (by simp at hz; omega)
  have z1 : Hid (∀ z ∈ [(2 : Int)], InZ z) := fun z hz => inz_small (by simp at hz; omega)
  have y0 := fun w' => Tryd.pNotF w'
  have y1 := fun w' => Tryd.pNotT w'
  clear hT
  go_enter Tryd.func9, Tryd.ntmps9
  go_wp2_with (first
    | (go_at_call 6; (with_reducible refine HO.out.mono ?_); rintro e w1 ⟨g, F0, rfl, s1⟩)
    | (go_at_call 6; (with_reducible refine (HO2.out _).mono ?_); rintro e w2 ⟨rfl, b2⟩; have s2 := s1.more b2)
    | (go_at_call 12; have hx := HT.out w2 g F0 s2; (with_reducible refine hx.mono ?_); clear hx; rintro e w3 ⟨F1, A3, c3, rfl, s3⟩)
    | (go_at_call 17; have hx := HM.out [4, 5] 7 _ g 2 w3.heap.size F1 A3 awp_m1 rfl (by omega) (z2.out 4 5 (by omega)) (s3.alloc (.cells #[.int .i64 4, .int .i64 5] 3)) (ri_two11 w3 4 5 3) (fun hf => Nat.lt_irrefl _ (s3.s.pp.flt _ hf)); (with_reducible refine hx.mono ?_); clear hx; rintro e w4 ⟨F2, rfl, s4⟩)
    | (go_at_call 17; have hx := HM.out [5, 5] 7 _ g 2 w4.heap.size F2 A3 awp_m2 rfl (by omega) (z2.out 5 5 (by omega)) (s4.alloc (.cells #[.int .i64 5, .int .i64 5] 3)) (ri_two11 w4 5 5 3) (fun hf => Nat.lt_irrefl _ (s4.s.pp.flt _ hf)); (with_reducible refine hx.mono ?_); clear hx; rintro e w5 ⟨F3, rfl, s5⟩)
    | (go_at_call 17; have hx := HM.out [2] 10 _ g 1 w5.heap.size F3 A3 awp_m3 rfl (by omega) z1.out (s5.alloc (.cells #[.int .i64 2] 3)) (ri_one11 w5 2 3) (fun hf => Nat.lt_irrefl _ (s5.s.pp.flt _ hf)); (with_reducible refine hx.mono ?_); clear hx; rintro e w6 ⟨F4, rfl, s6⟩)
    | (go_at_call 13; have hx := HG.out awP1 awP2 0 _ g w6.heap.size F4 A3 awp_g1 (s6.alloc (.cells #[.int .i64 3] 3)) (ri_one11 w6 3 3) (fun hf => Nat.lt_irrefl _ (s6.s.pp.flt _ hf)); (with_reducible refine hx.mono ?_); clear hx; rintro e w7 ⟨F5, rfl, s7⟩)
    | (go_at_call 13; have hx := HG.out awP2 awP2 6 _ g w7.heap.size F5 A3 awp_g2 (s7.alloc (.cells #[.int .i64 3] 3)) (ri_one11 w7 3 3) (fun hf => Nat.lt_irrefl _ (s7.s.pp.flt _ hf)); (with_reducible refine hx.mono ?_); clear hx; rintro e w8 ⟨F6, rfl, s8⟩)
    | (go_at_call 12; have hx := HT6.out w8 g F6 A3 s8; (with_reducible refine hx.mono ?_); clear hx; rintro e w9 ⟨F7, B9, c9, rfl, s9⟩)
    | (go_at_call 16; have hx := HC.out w9 g F7 A3 s9; (with_reducible refine hx.mono ?_); clear hx; rintro e wa ⟨g2, rfl, hTa⟩)
    | (go_at_call 12; (with_reducible refine hTa.mono ?_); rintro e wb ⟨vb, Fb, pb, rfl, hpb, hhb, sb⟩)
    | (go_at_call 20; have hx := HI2.out _ A3 _ c3 2 (sb.alloc (.cells #[.int .i64 3, .int .i64 4] 3)).l.1 (ri_two11 wb 3 4 3); (with_reducible refine hx.mono ?_); clear hx; rintro e wc ⟨rfl, bc⟩; have bbc := ((Below.refl _ _).alloc (Nat.le_refl _) (.cells #[.int .i64 3, .int .i64 4] 3) : Below wb.heap.size wb _).trans (bc.mono (by simp)); have sc := sb.more bbc)
    | (go_at_call 14; have hx := HFr.out wc g F7 A3 sc; (with_reducible refine hx.mono ?_); clear hx; rintro e wd ⟨rfl, bd⟩; have sd := sc.more bd)
    | (go_at_call 15; have hx := HTk.out wd g F7 A3 sd; (with_reducible refine hx.mono ?_); clear hx; rintro e we ⟨Be, ce, rfl, re, be⟩; have se := sd.more be)
    | (go_at_call 20; have hx := HI1.out _ Be _ ce 1 (ri_up re.out ((Below.refl _ _).alloc (Nat.le_refl _) (.cells #[.int .i64 4] 3))) (ri_one11 we 4 3); (with_reducible refine hx.mono ?_); clear hx; rintro e wf ⟨rfl, bf⟩; have bef := ((Below.refl _ _).alloc (Nat.le_refl _) (.cells #[.int .i64 4] 3) : Below we.heap.size we _).trans (bf.mono (by simp)); have sf := se.more bef)
    | (go_at_call 18; have hx := HH.out wf g F7 awP2 4 true sf.s.pp rfl (inz_small (by omega)); (with_reducible refine hx.mono ?_); clear hx; rintro e wg ⟨rfl, bg⟩; have sg := sf.more bg)
    | (go_at_call 18; have hx := HH.out wg g F7 awP2 3 false sg.s.pp rfl (inz_small (by omega)); (with_reducible refine hx.mono ?_); clear hx; rintro e wh ⟨rfl, bh⟩; have sh := sg.more bh)
    | (go_at_call 18; have hx := HH.out wh g2 Fb pb 3 true (hpb.turns (Turns.of_below ((((bbc.trans (bd.mono bbc.size)).trans (be.mono (bbc.trans (bd.mono bbc.size)).size)).trans (bef.mono ((bbc.trans (bd.mono bbc.size)).trans (be.mono (bbc.trans (bd.mono bbc.size)).size)).size)).trans ((bg.trans (bh.mono bg.size)).mono ((((bbc.trans (bd.mono bbc.size)).trans (be.mono (bbc.trans (bd.mono bbc.size)).size)).trans (bef.mono ((bbc.trans (bd.mono bbc.size)).trans (be.mono (bbc.trans (bd.mono bbc.size)).size)).size)).size))) (fun _ => False)) (fun _ _ h => h) (fun h => h)) hhb (inz_small (by omega)); (with_reducible refine hx.mono ?_); clear hx; rintro e wi ⟨rfl, bi⟩; have si := sh.more bi))
  go_ret
  exact ⟨rfl, si.s.below⟩
end Go.Proofs.YtibaaideleinhaaDoor
