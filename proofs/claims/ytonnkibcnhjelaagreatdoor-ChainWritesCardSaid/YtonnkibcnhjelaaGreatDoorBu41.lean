/- Lemmas under the proofs of this place: ChainAwake. No statement is proved here. -/
import Derived.Test.YtonnkibcnhjelaaGreatDoorBu14
import Derived.Test.YtonnkibcnhjelaaGreatDoorBu04
import Derived.Test.YtonnkibcnhjelaaGreatDoorBu29
import Derived.Test.YtonnkibcnhjelaaGreatDoorBu06
import Derived.Test.YtonnkibcnhjelaaGreatDoorBu16
import Derived.Test.YtonnkibcnhjelaaGreatDoorBu40
import Derived.Test.YtonnkibcnhjelaaGreatDoorBu30
import Derived.Test.YtonnkibcnhjelaaGreatDoorBu34
set_option linter.unusedVariables false
namespace Go.Proofs.YtonnkibcnhjelaaGreatDoor
open Go.RowKit
theorem Tryz.partEqY (a b c : Int) (w : World) : Sem.run Tryz.prog (binOp .eql 35 (.agg #[.int .i64 a, .int .i64 b, .int .i64 c]) (.agg #[.int .i64 a, .int .i64 b, .int .i64 c])) w = .ok (.bool true) w := by
  simp [go_sem]
theorem ini10 {z : Int} (h : -1000000 ≤ z ∧ z ≤ 1000000) : InI z := by unfold InI; omega
theorem ri_two10 (w : World) (a b : Int) (t : TypeId) : RI (w.alloc (.cells #[.int .i64 a, .int .i64 b] t)) (w.alloc (.cells #[.int .i64 a, .int .i64 b] t)).heap.size (some ⟨w.heap.size, 0, none⟩) [a, b] := fun _ => by
  have h0 := Blk.new w t #[.int .i64 a, .int .i64 b]
  refine ⟨w.heap.size, 0, rfl, by simp, fun k hk => ?_⟩
  rw [h0.cell]
  match k, hk with
  | 0, _ => rfl
  | 1, _ => rfl
theorem ri_one10 (w : World) (a : Int) (t : TypeId) : RI (w.alloc (.cells #[.int .i64 a] t)) (w.alloc (.cells #[.int .i64 a] t)).heap.size (some ⟨w.heap.size, 0, none⟩) [a] := fun _ => by
  have h0 := Blk.new w t #[.int .i64 a]
  refine ⟨w.heap.size, 0, rfl, by simp, fun k hk => ?_⟩
  rw [h0.cell]
  match k, hk with
  | 0, _ => rfl
def KeptI (w : World) (F : Nat → Prop) (A : Option Addr) (Z : List Int) : Prop := RI w w.heap.size A Z ∧ ∀ ad, A = some ad → ¬ F ad.block
theorem KeptI.turns {w w' : World} {F F' : Nat → Prop} {A : Option Addr} {Z : List Int} (h : KeptI w F A Z) (h0 : 0 < Z.length) (ht : Turns w w' F F') : KeptI w' F' A Z := by
  obtain ⟨b, off, rfl, hlt, hc⟩ := h.1 h0
  have hn := h.2 _ rfl
  refine ⟨fun _ => ⟨b, off, rfl, Nat.lt_of_lt_of_le hlt ht.size, fun k hk => (ht.cell (p := ⟨b, off + k, none⟩) hlt hn).trans (hc k hk)⟩, fun ad e hf => ?_⟩
  injection e with e
  subst e
  rcases ht.foot _ hf with h1 | h1
  · exact hn h1
  · simp at h1; omega
theorem kept_of {w : World} {F : Nat → Prop} {A : Option Addr} {L : List UInt8} (h : RB w w.heap.size A L) (h0 : 0 < L.length) (hn : ∀ ad, A = some ad → ¬ F ad.block) : Kept w F A L := by
  obtain ⟨ad, e, hlt, _⟩ := h.2 h0
  subst e
  exact ⟨h, fun ad' e' => by injection e' with e'; subst e'; exact ⟨hn _ rfl, hlt⟩⟩
structure AwS (w W : World) (g gT : Nat) (F : Nat → Prop) (D : Dk) : Prop where
  has : Has w W g F D
  txt : Kept W F (some ⟨gT, 0, none⟩) awT
theorem AwS.turned {w W W' : World} {g gT : Nat} {F F' : Nat → Prop} {D D' : Dk} (h : AwS w W g gT F D) (hp : PDisk W' g F' D') (ht : Turns W W' F F') : AwS w W' g gT F' D' := ⟨h.has.turned hp ht, h.txt.turns ht⟩
theorem AwS.more {w W W' : World} {g gT : Nat} {F : Nat → Prop} {D : Dk} (h : AwS w W g gT F D) (hb : Below W.heap.size W W') : AwS w W' g gT F D := ⟨h.has.more hb, h.txt.below hb⟩
theorem awT_set : ((cells (List.replicate 300 0)).toArray.setIfInBounds 299 (.int .u8 7)) = (cells awT).toArray := by kernel_rfl
theorem AwS.first {w W : World} {g gT : Nat} {F : Nat → Prop} {D : Dk} (h : Has w W g F D) (hB : Blk W gT 5 (cells (List.replicate 300 0)).toArray) (hn : ¬ F gT) (hlt : w.heap.size ≤ gT) : AwS w (W.setCell ⟨gT, 299, none⟩ (.int .u8 7)) g gT F D := by
  have ht : Turns W (W.setCell ⟨gT, 299, none⟩ (.int .u8 7)) (fun k => k = gT) (fun k => k = gT) := Turns.set_ (F := fun k => k = gT) rfl 299 _
  refine ⟨⟨h.disk.turns ht (fun k hk e => hn (e ▸ hk)), h.below.trans (ht.below (fun k e => by rw [e]; exact hlt) h.below.size), h.own⟩, ?_⟩
  have h1 := hB.set_ 299 (.int .u8 7)
  rw [awT_set] at h1
  exact kept_of (rb_blk6 h1) (by rw [awT_length]; omega) (fun ad e hf => by injection e with e; subst e; exact hn hf)
structure AwR (w W : World) (g gT gp : Nat) (At Al : Option Addr) (F : Nat → Prop) (D : Dk) : Prop where
  s : AwS w W g gT F D
  prt : Blk W gp 35 #[.int .i64 9, .int .i64 300, .int .i64 3]
  pno : ¬ F gp
  t : Kept W F At awT
  l : KeptI W F Al [9, 5]
theorem AwR.turned {w W W' : World} {g gT gp : Nat} {At Al : Option Addr} {F F' : Nat → Prop} {D D' : Dk} (h : AwR w W g gT gp At Al F D) (hp : PDisk W' g F' D') (ht : Turns W W' F F') : AwR w W' g gT gp At Al F' D' :=
  ⟨h.s.turned hp ht, h.prt.turns ht h.pno, fun hf => by
    rcases ht.foot _ hf with h1 | h1
    · exact h.pno h1
    · have := h.prt.lt; omega, h.t.turns ht, h.l.turns (by decide) ht⟩
theorem AwR.more {w W W' : World} {g gT gp : Nat} {At Al : Option Addr} {F : Nat → Prop} {D : Dk} (h : AwR w W g gT gp At Al F D) (hb : Below W.heap.size W W') : AwR w W' g gT gp At Al F D := h.turned (h.s.has.disk.below hb) (Turns.of_below hb F)
theorem AwR.alloc {w W : World} {g gT gp : Nat} {At Al : Option Addr} {F : Nat → Prop} {D : Dk} (h : AwR w W g gT gp At Al F D) (o : Obj) : AwR w (W.alloc o) g gT gp At Al F D := h.more ((Below.refl _ _).alloc (Nat.le_refl _) o)
theorem AwS.alloc {w W : World} {g gT : Nat} {F : Nat → Prop} {D : Dk} (h : AwS w W g gT F D) (o : Obj) : AwS w (W.alloc o) g gT F D := h.more ((Below.refl _ _).alloc (Nat.le_refl _) o)
theorem AwR.cells {w W : World} {g gT gp : Nat} {At Al : Option Addr} {F : Nat → Prop} {D : Dk} (h : AwR w W g gT gp At Al F D) : W.cell? ⟨gp, 0, none⟩ = some (.int .i64 9) ∧ W.cell? ⟨gp, 1, none⟩ = some (.int .i64 300) ∧ W.cell? ⟨gp, 2, none⟩ = some (.int .i64 3) := ⟨by rw [h.prt.cell]; rfl, by rw [h.prt.cell]; rfl, by rw [h.prt.cell]; rfl⟩
theorem aw_ld (r : Nat) (h : r ≤ 20000) : ({ awD with reads := r } : Dk).load ≤ 90000 := by
  have := aw_load
  unfold Dk.load at this ⊢
  simp only
  omega
set_option maxRecDepth 100000 in
set_option maxHeartbeats 4000000 in
theorem awake10_any (w : World) (hE : Er w) : Calls Tryz.prog 9 #[] w fun e w' => e = .returned (.bool true) ∧ Below w.heap.size w w' := by
  have hTl : Hid (300 = awT.length) := awT_length.symm
  have HEr := Lib.hid hE
  clear hE
  have HB : Hid (Calls Tryz.prog 5 #[.int .i64 16] w fun e w' => ∃ g F, e = .returned (.tuple #[.pointer (some ⟨g, 0, none⟩), .int .i64 0]) ∧ GivesDisk (Dk.blank 16) w w' g F) := blank_any 16 w (by omega) (by omega)
  have HW1 : Hid (∀ (W V : World) (g gT A1 : Nat) (F : Nat → Prop), AwS w W g gT F (Dk.blank 16) → W = V.alloc (.cells #[.int .i64 9, .int .i64 5] 3) → A1 = V.heap.size → ¬ F A1 → Calls Tryz.prog 10 #[.pointer (some ⟨g, 0, none⟩), .int .i64 3, .slice (some ⟨A1, 0, none⟩) 2 2, .slice (some ⟨gT, 0, none⟩) 300 300] W fun e w' => ∃ F', e = .returned (.tuple #[.agg #[.int .i64 9, .int .i64 300, .int .i64 3], .int .i64 0]) ∧ AwS w w' g gT F' awD) := fun W V g gT A1 F h e1 e2 hn => by
    subst e1 e2
    refine (chwrite_any 3 [9, 5] awT 2 300 _ _ 2 300 h.has.disk (by decide) rfl hTl.out (by omega) (by omega) (ini10 (by omega)) (fun p hp => ini10 (by simp at hp; omega)) (ri_two10 V 9 5 3) (fun _ ad e => by injection e with e; subst e; exact hn) (by omega) h.txt.1 (fun _ => h.txt.no) (by omega)).mono fun e w' hh => ?_
    obtain ⟨F', he, hp, ht⟩ := hh
    rw [aw_on.1] at he
    exact ⟨F', he, h.turned hp ht⟩
  have HR1 : Hid (∀ (W : World) (g gT gp : Nat) (F : Nat → Prop), AwS w W g gT F awD → Blk W gp 35 #[.int .i64 9, .int .i64 300, .int .i64 3] → ¬ F gp → Calls Tryz.prog 16 #[.pointer (some ⟨g, 0, none⟩), .agg #[.int .i64 9, .int .i64 300, .int .i64 3]] W fun e w' => ∃ F' A c A2 c2, e = .returned (.tuple #[.slice A 300 c, .slice A2 2 c2, .int .i64 0]) ∧ ∃ r, r ≤ 2004 ∧ AwR w w' g gT gp A A2 F' { awD with reads := r }) := fun W g gT gp F h hb hn => by
    refine (chread_any ⟨9, 300, 3⟩ h.has.disk (by have := aw_load; omega) (HEr.out.below h.has.below) (HEr.out.foot h.has.own)).mono fun e w' hh => ?_
    obtain ⟨F', A, c, A2, c2, k, he, hk, hp, ht, r1, n1, r2, n2⟩ := hh
    have h1 : chRead awD ⟨9, 300, 3⟩ = (awT, [9, 5], 0) := aw_q3
    rw [h1] at he r1 r2
    simp only [awT_length] at he
    have hl : awD.reads ≤ 4 := by have := aw_load; unfold Dk.load at this; omega
    exact ⟨F', A, c, A2, c2, he, _, by omega, h.turned hp ht, hb.turns ht hn, fun hf => by
      rcases ht.foot _ hf with h1 | h1
      · exact hn h1
      · have := hb.lt; omega, kept_of r1 (by rw [awT_length]; omega) n1, r2, n2⟩
  have HR2 : Hid (∀ (W : World) (g gT gp : Nat) (At Al : Option Addr) (F : Nat → Prop) (r : Nat), AwR w W g gT gp At Al F { awD with reads := r } → r ≤ 10000 → Calls Tryz.prog 16 #[.pointer (some ⟨g, 0, none⟩), .agg #[.int .i64 5, .int .i64 58, .int .i64 3]] W fun e w' => ∃ F' A c A2 c2, e = .returned (.tuple #[.slice A 0 c, .slice A2 0 c2, .int .i64 13]) ∧ ∃ r', r' ≤ r + 2000 ∧ AwR w w' g gT gp At Al F' { awD with reads := r' }) := fun W g gT gp At Al F r h hr => by
    refine (chread_any ⟨5, 58, 3⟩ h.s.has.disk (aw_ld r (by omega)) (HEr.out.below h.s.has.below) (HEr.out.foot h.s.has.own)).mono fun e w' hh => ?_
    obtain ⟨F', A, c, A2, c2, k, he, hk, hp, ht, r1, n1, r2, n2⟩ := hh
    rw [aw_r2] at he
    exact ⟨F', A, c, A2, c2, he, r + k, by omega, h.turned hp ht⟩
  have HR3 : Hid (∀ (W : World) (g gT gp : Nat) (At Al : Option Addr) (F : Nat → Prop) (r : Nat), AwR w W g gT gp At Al F { awD with reads := r } → r ≤ 10000 → Calls Tryz.prog 16 #[.pointer (some ⟨g, 0, none⟩), .agg #[.int .i64 1, .int .i64 1, .int .i64 1]] W fun e w' => ∃ F' A c A2 c2, e = .returned (.tuple #[.slice A 0 c, .slice A2 0 c2, .int .i64 1]) ∧ ∃ r', r' ≤ r + 2000 ∧ AwR w w' g gT gp At Al F' { awD with reads := r' }) := fun W g gT gp At Al F r h hr => by
    refine (chread_any ⟨1, 1, 1⟩ h.s.has.disk (aw_ld r (by omega)) (HEr.out.below h.s.has.below) (HEr.out.foot h.s.has.own)).mono fun e w' hh => ?_
    obtain ⟨F', A, c, A2, c2, k, he, hk, hp, ht, r1, n1, r2, n2⟩ := hh
    rw [aw_r3] at he
    exact ⟨F', A, c, A2, c2, he, r + k, by omega, h.turned hp ht⟩
  have HW2 : Hid (∀ (W V : World) (g gT gp A1 : Nat) (At Al : Option Addr) (F : Nat → Prop) (r : Nat), AwR w W g gT gp At Al F { awD with reads := r } → r ≤ 10000 → W = V.alloc (.cells #[.int .i64 9, .int .i64 9] 3) → A1 = V.heap.size → ¬ F A1 → Calls Tryz.prog 10 #[.pointer (some ⟨g, 0, none⟩), .int .i64 3, .slice (some ⟨A1, 0, none⟩) 2 2, .slice (some ⟨gT, 0, none⟩) 300 300] W fun e w' => ∃ F', e = .returned (.tuple #[.agg #[.int .i64 0, .int .i64 0, .int .i64 0], .int .i64 1]) ∧ AwR w w' g gT gp At Al F' { awD with reads := r }) := fun W V g gT gp A1 At Al F r h hr e1 e2 hn => by
    subst e1 e2
    refine (chwrite_any 3 [9, 9] awT 2 300 _ _ 2 300 h.s.has.disk (aw_ld r (by omega)) rfl hTl.out (by omega) (by omega) (ini10 (by omega)) (fun p hp => ini10 (by simp at hp; omega)) (ri_two10 V 9 9 3) (fun _ ad e => by injection e with e; subst e; exact hn) (by omega) h.s.txt.1 (fun _ => h.s.txt.no) (by omega)).mono fun e w' hh => ?_
    obtain ⟨F', he, hp, ht⟩ := hh
    rw [aw_w2] at he hp
    exact ⟨F', he, h.turned hp ht⟩
  have HW3 : Hid (∀ (W V : World) (g gT gp A1 : Nat) (At Al : Option Addr) (F : Nat → Prop) (r : Nat), AwR w W g gT gp At Al F { awD with reads := r } → r ≤ 10000 → W = V.alloc (.cells #[.int .i64 9] 3) → A1 = V.heap.size → ¬ F A1 → Calls Tryz.prog 10 #[.pointer (some ⟨g, 0, none⟩), .int .i64 3, .slice (some ⟨A1, 0, none⟩) 1 1, .slice (some ⟨gT, 0, none⟩) 300 300] W fun e w' => ∃ F', e = .returned (.tuple #[.agg #[.int .i64 0, .int .i64 0, .int .i64 0], .int .i64 1]) ∧ AwR w w' g gT gp At Al F' { awD with reads := r }) := fun W V g gT gp A1 At Al F r h hr e1 e2 hn => by
    subst e1 e2
    refine (chwrite_any 3 [9] awT 1 300 _ _ 1 300 h.s.has.disk (aw_ld r (by omega)) rfl hTl.out (by omega) (by omega) (ini10 (by omega)) (fun p hp => ini10 (by simp at hp; omega)) (ri_one10 V 9 3) (fun _ ad e => by injection e with e; subst e; exact hn) (by omega) h.s.txt.1 (fun _ => h.s.txt.no) (by omega)).mono fun e w' hh => ?_
    obtain ⟨F', he, hp, ht⟩ := hh
    rw [aw_w3] at he hp
    exact ⟨F', he, h.turned hp ht⟩
  have HW4 : Hid (∀ (W : World) (A1 : Option Addr), Calls Tryz.prog 10 #[.pointer none, .int .i64 3, .slice A1 1 1, .slice none 0 0] W fun e w' => e = .returned (.tuple #[.agg #[.int .i64 0, .int .i64 0, .int .i64 0], .int .i64 8]) ∧ Below W.heap.size W w') := fun W A1 => chwrite_none 3 1 0 A1 none 1 0 W
  have HR4 : Hid (∀ (W : World), Calls Tryz.prog 16 #[.pointer none, .agg #[.int .i64 9, .int .i64 300, .int .i64 3]] W fun e w' => (∃ A c A2 c2, e = .returned (.tuple #[.slice A 0 c, .slice A2 0 c2, .int .i64 8])) ∧ Below W.heap.size W w') := fun W => chread_none ⟨9, 300, 3⟩ W
  have HI : Hid (∀ (W : World) (A C : Option Addr) (c d : Nat), RI W W.heap.size A [9, 5] → RI W W.heap.size C [9, 5] → Calls Tryz.prog 17 #[.slice A 2 c, .slice C 2 d] W fun e w' => e = .returned (.bool true) ∧ Below W.heap.size W w') := fun W A C c d h1 h2 => intsq_any [9, 5] A C 2 c d _ W rfl h1 h2 (by omega)
  have HP16 : Hid (∀ W : World, Calls Tryz.prog 22 #[.agg #[.int .i64 9, .int .i64 300, .int .i64 3], .int .i64 16] W fun e w' => e = .returned (.bool true) ∧ Below W.heap.size W w') := fun W => chpart_any ⟨9, 300, 3⟩ 16 W
  have HP9 : Hid (∀ W : World, Calls Tryz.prog 22 #[.agg #[.int .i64 9, .int .i64 300, .int .i64 3], .int .i64 9] W fun e w' => e = .returned (.bool false) ∧ Below W.heap.size W w') := fun W => chpart_any ⟨9, 300, 3⟩ 9 W
  have HSt : Hid (∀ (W : World) (A : Option Addr) (c : Nat), RB W W.heap.size A awT → (convert 39 9 (.slice A 300 c)).run Tryz.prog W = .ok (.string ⟨awT.toArray⟩) W) := fun W A c h => aw_str h 300 c hTl.out
  have p1 := fun a b c w' => Tryz.partEqY a b c w'
  have p2 := fun a b c w' => Tryz.partBuild3 a b c w'
  have a35 := fun w' => Tryz.aggPart w'
  have s35 := fun w' => Tryz.sizePart w'
  have y0 := fun w' => Tryz.notFalse w'
  have y1 := fun w' => Tryz.notTrue w'
  obtain ⟨i0, hi0, hz0, hz1, hz2⟩ := info_parts Tryz.info5
  have hby : i0.bytes = 1 := hz2
  clear hTl
  go_enter Tryz.func9, Tryz.ntmps9
  go_wp2_with (first
    | (go_at_call 5; (with_reducible refine HB.out.mono ?_); rintro e w1 ⟨g, F0, rfl, hG⟩; have h1 : Has w w1 g F0 (Dk.blank 16) := Has.gives (Below.refl _ _) hG)
    | (at_make; refine wpList_make_full _ rfl _ _ 39 rfl w1.heap.size 5 i0 _ 1 Tryz.underlying39 hi0 hz0 hz1 .i64 .i64 _ _ 300 rfl rfl rfl rfl (by rw [hby]; omega) (by unfold maxLen; omega) (Nat.le_refl _) ?_; intro w2 ho2 hg2; have hB2 := made_blk ho2; have h2 : Has w w2 g F0 (Dk.blank 16) := h1.more ((Below.refl _ _).grown hg2 (Nat.le_refl _) (by simp)); have hn2 : ¬ F0 w1.heap.size := (fun hf => Nat.lt_irrefl _ (h1.flt _ hf)); have s3 := AwS.first h2 hB2 hn2 h1.below.size; have k2 : w2.cell? ⟨w1.heap.size, 299, none⟩ = some (.int .u8 0) := (by rw [hB2.cell]; kernel_rfl); have f2 := hB2.frozen 299; clear ho2 hg2 hB2 h2)
    | (go_at_call 10; (with_reducible refine (HW1.out _ _ _ _ _ _ (s3.alloc _) rfl (by simp) (fun hf => absurd (s3.has.flt _ hf) (by simp))).mono ?_); rintro e w4 ⟨F1, rfl, s4⟩; clear s3)
    | (go_at_call 16; have hx := HR1.out _ g w1.heap.size w4.heap.size F1 (s4.alloc (.cells #[.int .i64 9, .int .i64 300, .int .i64 3] 35)) (Blk.new w4 _ _) (fun hf => Nat.lt_irrefl _ (s4.has.flt _ hf)); (with_reducible refine hx.mono ?_); clear hx; rintro e w5 ⟨F2, At, ct, Al, cl, rfl, r5, hr5, s5⟩)
    | (go_at_call 16; (with_reducible refine (HR2.out _ _ _ _ _ _ _ _ s5 (by omega)).mono ?_); rintro e w6 ⟨F3, A6, c6, B6, d6, rfl, r6, hr6, s6⟩; clear s5)
    | (go_at_call 10; (with_reducible refine (HW2.out _ _ _ _ _ _ _ _ _ _ (s6.alloc _) (by omega) rfl (by simp) (fun hf => absurd (s6.s.has.flt _ hf) (by simp))).mono ?_); rintro e w7 ⟨F4, rfl, s7⟩; clear s6; have s7a := s7.alloc (.cells #[.int .i64 0, .int .i64 0, .int .i64 0] 35))
    | (go_at_call 10; (with_reducible refine (HW3.out _ _ _ _ _ _ _ _ _ _ (s7a.alloc _) (by omega) rfl (by simp) (fun hf => absurd (s7a.s.has.flt _ hf) (by simp))).mono ?_); rintro e w8 ⟨F5, rfl, s8⟩; clear s7 s7a; have s8a := s8.alloc (.cells #[.int .i64 0, .int .i64 0, .int .i64 0] 35))
    | (go_at_call 16; (with_reducible refine (HR3.out _ _ _ _ _ _ _ _ s8a (by omega)).mono ?_); rintro e w9 ⟨F6, A9, c9, B9, d9, rfl, r9, hr9, s9⟩; clear s8 s8a; have s9a := s9.alloc (.cells #[.int .i64 9] 3))
    | (go_at_call 10; (with_reducible refine (HW4.out _ _).mono ?_); rintro e wa ⟨rfl, ba⟩; have sa := (s9a.more ba).alloc (.cells #[.int .i64 0, .int .i64 0, .int .i64 0] 35); obtain ⟨e0, e1, e2⟩ := sa.cells; clear s9 s9a)
    | (go_at_call 16; (with_reducible refine (HR4.out _).mono ?_); rintro e wb ⟨⟨A7, c7, B7, d7, rfl⟩, bb⟩; have sb := sa.more bb; obtain ⟨e0, e1, e2⟩ := sb.cells; have q1 := HSt.out _ _ ct sb.t.1; have q2 := HSt.out _ _ 300 sb.s.txt.1; clear sa)
    | (go_at_call 17; have hx := HI.out _ Al _ cl 2 (sb.alloc (.cells #[.int .i64 9, .int .i64 5] 3)).l.1 (ri_two10 wb 9 5 3); (with_reducible refine hx.mono ?_); clear hx; rintro e wc ⟨rfl, bc⟩; have sc := (sb.alloc (.cells #[.int .i64 9, .int .i64 5] 3)).more bc; obtain ⟨e0, e1, e2⟩ := sc.cells; clear sb)
    | (go_at_call 22; (with_reducible refine (HP16.out _).mono ?_); rintro e wd ⟨rfl, bd⟩; have sd := sc.more bd; obtain ⟨e0, e1, e2⟩ := sd.cells; clear sc)
    | (go_at_call 22; (with_reducible refine (HP9.out _).mono ?_); rintro e we ⟨rfl, be⟩; have se := sd.more be; clear sd))
  go_ret
  exact ⟨rfl, se.s.has.below⟩
end Go.Proofs.YtonnkibcnhjelaaGreatDoor
