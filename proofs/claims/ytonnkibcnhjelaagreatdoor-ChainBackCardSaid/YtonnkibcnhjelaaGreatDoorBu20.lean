/- Lemmas under the proofs of this place: ChainMem, DiskPReadO, DiskRSmall, DiskPWrite, CellPPut. No statement is proved here. -/
import Derived.Test.YtonnkibcnhjelaaGreatDoorBu06
import Derived.Test.YtonnkibcnhjelaaGreatDoorBu09
import Derived.Test.YtonnkibcnhjelaaGreatDoorBu02
import Derived.Test.YtonnkibcnhjelaaGreatDoorBu12
import Derived.Test.YtonnkibcnhjelaaGreatDoorBu18
import Derived.Test.YtonnkibcnhjelaaGreatDoorBu16
import Derived.Test.YtonnkibcnhjelaaGreatDoorBu13
section
set_option linter.unusedVariables false
namespace Go.Proofs.YtonnkibcnhjelaaGreatDoor
open Go.RowKit
def ptV (p : Pt) : Value := .agg #[.int .i64 p.first, .int .i64 p.size, .int .i64 p.owner]
theorem Tryz.aggPart (w : World) : (isAgg 35).run Tryz.prog w = .ok true w := by kernel_rfl
theorem Tryz.sizePart (w : World) : (sizeOf 35).run Tryz.prog w = .ok 3 w := by kernel_rfl
theorem Tryz.partBuild0 (w : World) : Sem.run Tryz.prog (Instr.build 35 #[]) w = .ok (.agg #[.int .i64 0, .int .i64 0, .int .i64 0]) w := by kernel_rfl
theorem Tryz.partBuild3 (a b c : Int) (w : World) : Sem.run Tryz.prog (Instr.build 35 #[(0, .int .i64 a), (1, .int .i64 b), (2, .int .i64 c)]) w = .ok (.agg #[.int .i64 a, .int .i64 b, .int .i64 c]) w := by kernel_rfl
def ResP (W : World) (g : Nat) : Prop := (W.cell? ⟨g, 0, none⟩ = some (.int .i64 0) ∧ W.cell? ⟨g, 1, none⟩ = some (.int .i64 0) ∧ W.cell? ⟨g, 2, none⟩ = some (.int .i64 0)) ∧ W.frozen? ⟨g, 0, none⟩ = false ∧ W.frozen? ⟨g, 1, none⟩ = false ∧ W.frozen? ⟨g, 2, none⟩ = false
theorem ResP.of_blk {W : World} {g : Nat} (h0 : Blk W g 35 #[.int .i64 0, .int .i64 0, .int .i64 0]) : ResP W g :=
  ⟨⟨by rw [h0.cell]; rfl, by rw [h0.cell]; rfl, by rw [h0.cell]; rfl⟩, h0.frozen 0, h0.frozen 1, h0.frozen 2⟩
theorem turns_three (W : World) (g : Nat) (v0 v1 v2 : Value) : Turns W (((W.setCell ⟨g, 0, none⟩ v0).setCell ⟨g, 1, none⟩ v1).setCell ⟨g, 2, none⟩ v2) (fun k => k = g) (fun k => k = g) :=
  ((Turns.set_ (F := fun k => k = g) rfl 0 v0).trans (Turns.set_ (F := fun k => k = g) rfl 1 v1)).trans (Turns.set_ (F := fun k => k = g) rfl 2 v2)
section
variable {w w1 w2 W : World} {q g : Nat} {G B : Nat → Prop} {d d1 d2 : Dk}
theorem RDeeds.andThen (h : RDeeds d1 G B w w1 q) (h2 : ∀ G' B', RDisk w1 q G' B' d1 → RDeeds d2 G' B' w1 w2 q) : RDeeds d2 G B w w2 q := by
  obtain ⟨G', B', hr, ht, hb⟩ := h
  obtain ⟨G'', B'', hr2, ht2, hb2⟩ := h2 G' B' hr
  refine ⟨G'', B'', hr2, ht.trans ht2, fun k hk => ?_⟩
  rcases hb2 k hk with h3 | h3
  · exact hb k h3
  · exact .inr (Nat.le_trans ht.size h3)
theorem RDeeds.start (h : RDisk w q G B d) : RDeeds d G B w w q := ⟨G, B, h, Turns.refl _ _, fun _ h => .inl h⟩
theorem RDeeds.more (h : RDeeds d G B w w1 q) (hb : Below w1.heap.size w1 w2) : RDeeds d G B w w2 q := by
  obtain ⟨G', B', hr, ht, hb0⟩ := h
  exact ⟨G', B', hr.below hb, ht.trans (Turns.of_below hb G'), hb0⟩
theorem RDeeds.cell (h : RDeeds d G B w w1 q) {p : Addr} (hp : p.block < w.heap.size) (hn : ¬ G p.block) : w1.cell? p = w.cell? p := by
  obtain ⟨G', B', hr, ht, hb0⟩ := h
  exact ht.cell hp hn
theorem RDeeds.frozen (h : RDeeds d G B w w1 q) {p : Addr} (hp : p.block < w.heap.size) (hn : ¬ G p.block) : w1.frozen? p = w.frozen? p := by
  obtain ⟨G', B', hr, ht, hb0⟩ := h
  exact ht.frozen hp hn
theorem RDeeds.blk (h : RDeeds d G B w w1 q) {t : TypeId} {cs : Array Value} (hg : Blk w g t cs) (hn : ¬ G g) : Blk w1 g t cs := by
  obtain ⟨G', B', hr, ht, hb0⟩ := h
  exact hg.turns ht hn
theorem RDeeds.size (h : RDeeds d G B w w1 q) : w.heap.size ≤ w1.heap.size := by
  obtain ⟨G', B', hr, ht, hb0⟩ := h
  exact ht.size
theorem RDeeds.rb (h : RDeeds d G B w w1 q) {A : Option Addr} {L : List UInt8} (hr : RB w w.heap.size A L) (hn : ∀ ad, A = some ad → ¬ G ad.block) : RB w1 w1.heap.size A L := by
  obtain ⟨G', B', _, ht, hb0⟩ := h
  exact (Reads.turns hr (Nat.le_refl _) ht hn).more ht.size
theorem RDeeds.store (h : RDeeds d G B w1 w2 q) (hw : Below w.heap.size w w1) (hG : ∀ k, G k → k < w.heap.size) (hB : ∀ k, B k → k < w.heap.size) (hg1 : w.heap.size ≤ g) (hg2 : g < w1.heap.size) (ht : Turns w2 W (fun k => k = g) (fun k => k = g)) : RDeeds d G B w W q := by
  obtain ⟨G', B', hr, htt, hb0⟩ := h
  have hnG : ¬ G' g := fun hk => by
    rcases htt.foot g hk with h1 | h1
    · have := hG g h1; omega
    · omega
  have hnB : ¬ B' g := fun hk => by
    rcases hb0 g hk with h1 | h1
    · have := hB g h1; omega
    · omega
  refine ⟨G', B', hr.turns ht (fun k hk e => hnG (e ▸ hk)) (fun k hk e => hnB (e ▸ hk)), ?_, fun k hk => ?_⟩
  · have ht2 := (Turns.of_below hw G).trans htt
    refine ⟨ht.os.trans ht2.os, ht.tape.trans ht2.tape, ht.output.trans ht2.output, Nat.le_trans ht2.size ht.size, fun k hk hn => ?_, ht2.foot⟩
    exact (ht.block k (Nat.lt_of_lt_of_le hk ht2.size) (fun e => by omega)).trans (ht2.block k hk hn)
  · rcases hb0 k hk with h3 | h3
    · exact .inl h3
    · exact .inr (Nat.le_trans hw.size h3)
end
end Go.Proofs.YtonnkibcnhjelaaGreatDoor
end
section
set_option linter.unusedVariables false
namespace Go.Proofs.YtonnkibcnhjelaaGreatDoor
open Go.RowKit
set_option maxRecDepth 100000 in
set_option maxHeartbeats 1000000 in
theorem read_only {w : World} {g : Nat} {F : Nat → Prop} {d : Dk} (h : PDisk w g F d) (i : Int) (hl : d.load ≤ 100000) :
    Calls Tryz.prog 32 #[.pointer (some ⟨g, 0, none⟩), .int .i64 i] w fun e w' => ReadPost d i g F w e w' ∧ Only w w' g := by
  have HR := Lib.hid (reach_any h i)
  cases ho : d.off with
  | true =>
    have HV : Hid (d.read i = (d, [], 9)) := by show _ = _; unfold Dk.read; rw [if_pos ho]
    have e1 : d.reach i = 9 := by unfold Dk.reach; rw [if_pos ho]
    rw [e1] at HR
    clear ho e1
    go_enter Tryz.func32, Tryz.ntmps32
    go_wp2_with (go_at_call 67; (with_reducible refine HR.out.mono ?_); rintro e w1 ⟨rfl, rfl⟩)
    go_ret2
    unfold ReadPost
    rw [HV.out]
    exact ⟨⟨none, 0, rfl, World.ownsRow_nil _ _ _ _, h, Turns.refl _ _⟩, only_refl _ _⟩
  | false =>
    cases ht : d.there i with
    | false =>
      have HV : Hid (d.read i = (d, [], 10)) := by show _ = _; unfold Dk.read; rw [ho, ht]; rfl
      have e1 : d.reach i = 10 := by unfold Dk.reach; rw [ho, ht]; rfl
      rw [e1] at HR
      clear ho ht e1
      go_enter Tryz.func32, Tryz.ntmps32
      go_wp2_with (go_at_call 67; (with_reducible refine HR.out.mono ?_); rintro e w1 ⟨rfl, rfl⟩)
      go_ret2
      unfold ReadPost
      rw [HV.out]
      exact ⟨⟨none, 0, rfl, World.ownsRow_nil _ _ _ _, h, Turns.refl _ _⟩, only_refl _ _⟩
    | true =>
      have HV : Hid (d.read i = ({ d with reads := d.reads + 1 }, d.now i.toNat, 0)) := by show _ = _; unfold Dk.read; rw [ho, ht]; rfl
      have e1 : d.reach i = 0 := by unfold Dk.reach; rw [ho, ht]; rfl
      rw [e1] at HR
      obtain ⟨k, rfl, hk⟩ := there_nat ht
      rw [Int.toNat_natCast] at HV
      obtain ⟨a, ca, b, cb, n, V, ends, lf, h⟩ := h
      have HP := Lib.hid h.count6
      have HA := Lib.hid (aadd_any g 6 d.reads w (by unfold Dk.load at hl; omega) h.c6 (h.fz 6))
      have hn := h.size
      have hmany := h.good.many
      have hcb := h.capb
      have hrb := h.count6.last.rb (256 * k) 256 (by rw [Dk.image_length h.count6.good.fit]; show _ ≤ 256 * d.safe.length; omega)
      have hnow : ({ d with reads := d.reads + 1 } : Dk).image = d.image := Dk.image_same rfl rfl
      rw [hnow, Dk.image_get h.good.fit k hk] at hrb
      have h256 : (d.now k).length = 256 := Dk.fit_now h.good.fit hk
      obtain ⟨L, hL⟩ : ∃ L, L = d.now k := ⟨_, rfl⟩
      rw [← hL] at hrb HV h256
      obtain ⟨W, hW⟩ : ∃ W, W = w.setCell ⟨g, 6, none⟩ (.int .i64 ((d.reads + 1 : Nat) : Int)) := ⟨_, rfl⟩
      have c1 : W.cell? ⟨g, 1, none⟩ = some (.slice (some ⟨b, 0, none⟩) n cb) := by rw [hW]; exact h.count6.c1
      rw [← hW] at hrb HA HP
      have hz : W.heap.size = w.heap.size := by rw [hW]; simp [World.setCell]
      have HT : Hid (Turns w W F F) := by show Turns _ _ _ _; rw [hW]; exact Turns.set_ h.fg 6 _
      have HO6 : Hid (Only w W g) := by show Only _ _ _; rw [hW]; exact only_set _ _ _ _
      have HB := Lib.hid (block_of b n cb k W (by omega) (by omega) hcb.1 hcb.2)
      have HC := Lib.hid (sclone_any L _ (cb - 256 * k) _ W hrb (by omega))
      rw [h256] at HC
      have H256 := Lib.hid h256
      have HZ := Lib.hid hz
      clear hW hL h ho ht e1 hk hn hmany hcb hrb hnow h256 hz hl
      go_enter Tryz.func32, Tryz.ntmps32
      go_wp2_with (first
        | (go_at_call 67; (with_reducible refine HR.out.mono ?_); rintro e w1 ⟨rfl, rfl⟩)
        | (go_at_call 47; (with_reducible refine HA.out.mono ?_); rintro e w1 ⟨rfl, rfl⟩)
        | (go_at_call 46; (with_reducible refine HB.out.mono ?_); rintro e w2 ⟨rfl, rfl⟩)
        | (go_at_call 52; (with_reducible refine HC.out.mono ?_); rintro e w3 ⟨A3, c3, rfl, ho3, hb3⟩))
      go_ret2
      unfold ReadPost
      rw [HV.out]
      exact ⟨⟨A3, c3, by simp only [H256.out]; rfl, by rw [← HZ.out]; exact ho3, PDisk.below ⟨_, _, _, _, _, _, _, _, HP.out⟩ hb3, HT.out.trans (Turns.of_below hb3 F)⟩, only_trans HO6.out (only_below hb3 g)⟩
end Go.Proofs.YtonnkibcnhjelaaGreatDoor
end
section
set_option linter.unusedVariables false
namespace Go.Proofs.YtonnkibcnhjelaaGreatDoor
open Go.RowKit
set_option maxRecDepth 100000 in
theorem there_any {w : World} {g : Nat} {G B : Nat → Prop} {d : Dk} (h : RDisk w g G B d) (i : Int) :
    Calls Tryz.prog 72 #[.pointer (some ⟨g, 0, none⟩), .int .i64 i] w fun e w' => e = .returned (.bool (d.there i)) ∧ w = w' := by
  obtain ⟨s, cs, V, hs, hv, h⟩ := h
  have r0 := h.r0
  obtain ⟨m, hm⟩ : ∃ m, m = d.safe.length := ⟨_, rfl⟩
  have HT : Hid (d.there i = decide (0 ≤ i ∧ i < (m : Int))) := by show _ = _; rw [hm]; rfl
  rw [← hm] at r0
  clear h hm
  by_cases h0 : 0 ≤ i
  · have d0 : decide (i ≥ 0) = true := decide_eq_true h0
    by_cases h1 : i < (m : Int)
    · have HV : Hid (d.there i = true) := by rw [HT.out]; exact decide_eq_true ⟨h0, h1⟩
      have d1 : decide (i < (m : Int)) = true := decide_eq_true h1
      go_enter Tryz.func72, Tryz.ntmps72
      go_wp2
      go_ret
      exact ⟨by rw [HV.out]; rfl, rfl⟩
    · have HV : Hid (d.there i = false) := by rw [HT.out]; exact decide_eq_false (fun h => h1 h.2)
      have d1 : decide (i < (m : Int)) = false := decide_eq_false h1
      go_enter Tryz.func72, Tryz.ntmps72
      go_wp2
      go_ret
      exact ⟨by rw [HV.out]; rfl, rfl⟩
  · have HV : Hid (d.there i = false) := by rw [HT.out]; exact decide_eq_false (fun h => h0 h.1)
    have d0 : decide (i ≥ 0) = false := decide_eq_false h0
    have d1 : decide ((0 : Int) ≤ i) = false := decide_eq_false h0
    go_enter Tryz.func72, Tryz.ntmps72
    go_wp2
    go_ret
    exact ⟨by rw [HV.out]; rfl, rfl⟩
theorem RDisk.gg {w : World} {g : Nat} {G B : Nat → Prop} {d : Dk} (h : RDisk w g G B d) : G g := by obtain ⟨s, cs, V, hs, hv, h⟩ := h; exact h.gg
set_option maxRecDepth 100000 in
set_option maxHeartbeats 1000000 in
theorem deed_any {w : World} {g : Nat} {G B : Nat → Prop} {d : Dk} (h : RDisk w g G B d) :
    Calls Tryz.prog 73 #[.pointer (some ⟨g, 0, none⟩)] w fun e w' => e = .returned (.bool d.deed.2) ∧ RSame d.deed.1 G B w w' g := by
  obtain ⟨s, cs, V, hs, hv, h⟩ := h
  have r2 := h.r2
  have r3 := h.r3
  have f2 := h.fz 2
  have f3 := h.fz 3
  have hl := h.good.left
  by_cases h0 : d.left = 0
  · have hd : Hid (d.deed = ({ d with off := true }, false)) := by show _ = _; unfold Dk.deed; rw [if_pos h0]
    have HP : Hid (RD (w.setCell ⟨g, 3, none⟩ (.bool true)) g G B { d with off := true } s cs V hs hv) :=
      h.retell (turns_own w g 3 _) rfl rfl hl (h.blk.set_ 3 (.bool true))
    have HG := Lib.hid h.gg
    rw [h0] at r2
    clear h h0 hl
    go_enter Tryz.func73, Tryz.ntmps73
    go_wp2
    go_ret
    rw [hd.out]
    exact ⟨rfl, ⟨_, _, _, _, _, HP.out⟩, Turns.set_ HG.out 3 _⟩
  · obtain ⟨l, hl2⟩ : ∃ l, l = d.left := ⟨_, rfl⟩
    rw [← hl2] at r2
    have e0 : (l == 0) = false := by rw [hl2]; simpa using h0
    by_cases h1 : 0 < d.left
    · have hd : Hid (d.deed = ({ d with left := d.left - 1 }, true)) := by show _ = _; unfold Dk.deed; rw [if_neg h0, if_pos h1]
      obtain ⟨l2, hl3⟩ : ∃ l2, l2 = l - 1 := ⟨_, rfl⟩
      have e1 : IntKind.i64.wrap (l - 1) = l2 := by rw [hl3]; exact IntWalk.i64_in _ (by omega)
      have e2 : decide (l > 0) = true := decide_eq_true (by omega)
      have HP : Hid (RD (w.setCell ⟨g, 2, none⟩ (.int .i64 l2)) g G B { d with left := d.left - 1 } s cs V hs hv) := by
        refine h.retell (turns_own w g 2 _) rfl rfl ⟨by show -1 ≤ d.left - 1; omega, by show d.left - 1 ≤ _; omega⟩ ?_
        have := h.blk.set_ 2 (.int .i64 l2)
        rw [hl3, hl2] at this ⊢
        exact this
      have HG := Lib.hid h.gg
      clear h h0 h1 hl hl2 hl3
      go_enter Tryz.func73, Tryz.ntmps73
      go_wp2
      go_ret
      rw [hd.out]
      exact ⟨rfl, ⟨_, _, _, _, _, HP.out⟩, Turns.set_ HG.out 2 _⟩
    · have hd : Hid (d.deed = (d, true)) := by show _ = _; unfold Dk.deed; rw [if_neg h0, if_neg h1]
      have e2 : decide (l > 0) = false := decide_eq_false (by omega)
      have e3 : decide (0 < l) = false := decide_eq_false (by omega)
      have H := Lib.hid h
      clear h h0 h1 hl hl2
      go_enter Tryz.func73, Tryz.ntmps73
      go_wp2
      go_ret
      rw [hd.out]
      exact ⟨rfl, ⟨_, _, _, _, _, H.out⟩, Turns.refl _ _⟩
set_option maxRecDepth 100000 in
theorem rstop_any {w : World} {g : Nat} {G B : Nat → Prop} {d : Dk} (h : RDisk w g G B d) (i : Int) (hi : InI i) :
    Calls Tryz.prog 37 #[.pointer (some ⟨g, 0, none⟩), .int .i64 i] w fun e w' => e = .returned (.int .i64 (d.stop i).2) ∧ RSame (d.stop i).1 G B w w' g := by
  obtain ⟨hi1, hi2⟩ := hi
  by_cases h0 : i < 0
  · have d0 : decide (i < 0) = true := decide_eq_true h0
    have HV : Hid (d.stop i = (d, 1)) := by show _ = _; unfold Dk.stop; rw [if_pos h0]
    go_enter Tryz.func37, Tryz.ntmps37
    go_wp2
    go_ret
    rw [HV.out]
    exact ⟨rfl, h, Turns.refl _ _⟩
  · have d0 : decide (i < 0) = false := decide_eq_false h0
    have HV : Hid (d.stop i = ({ d with left := i }, 0)) := by show _ = _; unfold Dk.stop; rw [if_neg h0]
    obtain ⟨s, cs, V, hs, hv, h⟩ := h
    have r2 := h.r2
    have f2 := h.fz 2
    have HP : Hid (RD (w.setCell ⟨g, 2, none⟩ (.int .i64 i)) g G B { d with left := i } s cs V hs hv) :=
      h.retell (turns_own w g 2 _) rfl rfl ⟨by show (-1 : Int) ≤ i; omega, hi2⟩ (h.blk.set_ 2 (.int .i64 i))
    have HG := Lib.hid h.gg
    clear h h0 hi1 hi2
    go_enter Tryz.func37, Tryz.ntmps37
    go_wp2
    go_ret
    rw [HV.out]
    exact ⟨rfl, ⟨_, _, _, _, _, HP.out⟩, Turns.set_ HG.out 2 _⟩
theorem lastOf_at (n : Nat) : ∀ (l : List (Nat × List UInt8)) (q : Nat) (hq : q < l.length), (l[q]).1 = n → (∀ p (hp : p < l.length), q < p → (l[p]).1 ≠ n) → Dk.lastOf n l = some (l[q]).2
  | x :: l, 0, _, h, hn => by
    rw [Dk.lastOf, Dk.lastOf_none n l (fun y hy => by
      obtain ⟨i, hi, rfl⟩ := List.getElem_of_mem hy
      exact hn (i + 1) (by simpa using hi) (by omega))]
    simp at h
    simp [h]
  | x :: l, q + 1, hq, h, hn => by
    rw [Dk.lastOf, lastOf_at n l q (by simpa using hq) (by simpa using h) (fun p hp hlt => by have := hn (p + 1) (by simpa using hp) (by omega); simpa using this)]
    simp
set_option maxRecDepth 100000 in
set_option maxHeartbeats 2000000 in
theorem now_any {w : World} {g : Nat} {G B : Nat → Prop} {d : Dk} (h : RDisk w g G B d) (k : Nat) (hk : k < d.safe.length) (hl : d.waits.length ≤ 1000000) :
    Calls Tryz.prog 74 #[.pointer (some ⟨g, 0, none⟩), .int .i64 (k : Int)] w fun e w' => (∃ v, e = .returned v ∧ Hdr w B v (d.now k)) ∧ w = w' := by
  obtain ⟨s, cs, V, hs, hv, h⟩ := h
  obtain ⟨A, c, rfl, hc1, hc2⟩ := h.vform
  have r1 := h.r1
  obtain ⟨m, hm⟩ : ∃ m, m = d.waits.length := ⟨_, rfl⟩
  rw [← hm] at r1 hc1 hl
  have H := Lib.hid h
  have Hm := Lib.hid hm
  have HK := Lib.hid hk
  have e0 : IntKind.i64.wrap ((m : Int) - 1) = (m : Int) - 1 := IntWalk.i64_in _ (by omega)
  clear h hm hk
  go_enter Tryz.func74, Tryz.ntmps74
  go_wp2
  clear e0
  go_loop [5] (fun x => ∃ j : Nat, j ≤ m ∧ x = .int .i64 ((j : Int) - 1) ∧ Hid (∀ p (hp : p < d.waits.length), j ≤ p → (d.waits[p]).1 ≠ k)) (fun x => (intOf x + 1).toNat)
  case atStart => exact ⟨m, by omega, rfl, fun p hp hj => absurd hp (by have := Hm.out; omega)⟩
  case round =>
    obtain ⟨j, hj, rfl, HN⟩ := hrel
    by_cases h0 : 0 < j
    · obtain ⟨q, rfl⟩ : ∃ q, j = q + 1 := ⟨j - 1, by omega⟩
      have eq1 : (((q + 1 : Nat) : Int) - 1) = (q : Int) := by omega
      rw [eq1]
      obtain ⟨gv, cv, hV, hvs, hvg, hvG, hm1, hm2, hcell⟩ := H.out.row (by have := Hm.out; omega)
      obtain ⟨rfl, -, rfl⟩ : A = some ⟨gv, 0, none⟩ ∧ m = d.waits.length ∧ c = cv := by
        have := Hm.out
        simp only [Value.slice.injEq] at hV
        exact ⟨hV.1, this, hV.2.2⟩
      have hq : q < d.waits.length := by have := Hm.out; omega
      obtain ⟨c1, v, c2, hh⟩ := hcell q hq
      obtain ⟨xn, hxn⟩ : ∃ xn, xn = (d.waits[q]).1 := ⟨_, rfl⟩
      rw [← hxn] at c1
      have u0 : (0 : Int) ≤ (q : Int) := by omega
      have u1 : (q : Int) < (m : Int) := by omega
      have d0 : decide ((q : Int) ≥ 0) = true := decide_eq_true (by omega)
      by_cases hx : xn = k
      · have HV : Hid (d.now k = (d.waits[q]).2) := by
          show _ = _
          unfold Dk.now
          rw [lastOf_at k d.waits q hq (by rw [← hxn]; exact hx) (fun p hp hlt => HN.out p hp (by omega))]
          rfl
        have Hh : Hid (Hdr w B v (d.waits[q]).2) := hh
        obtain ⟨_, b1, o1, cc1, rfl, _⟩ := hh
        subst hx
        have d1 : ((xn : Int) == (xn : Int)) = true := by simp
        clear hV hcell hxn
        go_wp2
        go_ret
        refine ⟨⟨_, rfl, ?_⟩, rfl⟩
        rw [HV.out]; exact Hh.out
      · have HN2 : Hid (∀ p (hp : p < d.waits.length), q ≤ p → (d.waits[p]).1 ≠ k) := fun p hp hqp => by
          by_cases hpq : p = q
          · subst hpq; rw [← hxn]; exact hx
          · exact HN.out p hp (by omega)
        have d1 : ((xn : Int) == (k : Int)) = false := by simp; omega
        have d2 : (xn == k) = false := by simpa using hx
        clear hV hcell hxn hh hx HN
        go_wp2
        refine ⟨⟨q, by omega, rfl, HN2⟩, ?_⟩
        simp [intOf]
    · have hj0 : j = 0 := by omega
      subst hj0
      obtain ⟨v, _, c3, hh⟩ := H.out.at_ HK.out
      have HV : Hid (d.now k = d.safe[k]'HK.out) := by
        show _ = _
        unfold Dk.now
        rw [Dk.lastOf_none k d.waits (fun x hx => by obtain ⟨p, hp, rfl⟩ := List.getElem_of_mem hx; exact HN.out p hp (by omega))]
        have := HK.out
        simp [List.getD, this]
      have Hh : Hid (Hdr w B v (d.safe[k]'HK.out)) := hh
      obtain ⟨_, b1, o1, cc1, rfl, _⟩ := hh
      have r0 := H.out.r0
      obtain ⟨n, hn⟩ : ∃ n, n = d.safe.length := ⟨_, rfl⟩
      rw [← hn] at r0
      have u0 : (0 : Int) ≤ (k : Int) := by omega
      have u1 : (k : Int) < (n : Int) := by have := HK.out; omega
      clear hn HN
      go_wp2
      go_ret
      refine ⟨⟨_, rfl, ?_⟩, rfl⟩
      rw [HV.out]; exact Hh.out
end Go.Proofs.YtonnkibcnhjelaaGreatDoor
end
section
set_option linter.unusedVariables false
namespace Go.Proofs.YtonnkibcnhjelaaGreatDoor
open Go.RowKit
def Dk.wrote : Dk × Bool → Dk × Int
  | (e, false) => (e, 9)
  | (e, true) => ({ e with writes := e.writes + 1 }, 0)
theorem Dk.write_yes {d : Dk} {i : Int} {b : List UInt8} (ho : d.off = false) (ht : d.there i = true) (hb : b.length = 256) : d.write i b = Dk.wrote (Dk.deed { d with waits := d.waits ++ [(i.toNat, b)] }) := by
  unfold Dk.write
  rw [ho, ht]
  simp only [Bool.false_eq_true, Bool.not_true, if_false, hb]
  generalize Dk.deed _ = r
  obtain ⟨e, q⟩ := r
  cases q <;> simp [Dk.wrote]
def oneWait (k : Nat) (L : List UInt8) : List Value := .int .i64 (k : Int) :: cells L
theorem oneWait_one (k : Nat) (L : List UInt8) : ∀ u ∈ oneWait k L, u.oneCell' = true := fun u hu => by
  rcases List.mem_cons.1 hu with rfl | h
  · rfl
  · exact cells_one _ u h
theorem Tryz.builtWrite (k : Int) : Tryz.prog.built 89 [(0, .int .i64 k)] = some ((Value.int .i64 k :: cells (List.replicate 256 0)).toArray) := by kernel_rfl
theorem Tryz.writeZero : (Tryz.prog.info? 89).map (fun i => (i.zero, i.size)) = some (some (.agg (oneWait 0 (List.replicate 256 0)).toArray), (oneWait 0 (List.replicate 256 0)).toArray.size) := by kernel_rfl
theorem Tryz.writeSize : (Tryz.prog.info? 89).map (·.size) = some 257 := by kernel_rfl
theorem Tryz.writeInfo : (Tryz.prog.info? 89).map (fun i => (i.zero, i.size, i.bytes)) = some (some (.agg (oneWait 0 (List.replicate 256 0)).toArray), 257, 264) := by kernel_rfl
theorem splice_wait (k : Nat) (Z L : List UInt8) (h : Z.length = L.length) : splice (oneWait k Z) 1 (cells L) = oneWait k L := by
  unfold splice oneWait
  rw [List.take_succ_cons, List.take_zero, List.drop_eq_nil_of_le (by simp [cells_length]; omega)]
  simp
theorem Tryz.writeDesc_ : (match Tryz.prog.underlying 89 with | some d => d.isRow | none => false) = true := by kernel_rfl
theorem oneWait_length (k : Nat) (L : List UInt8) : (oneWait k L).length = L.length + 1 := by simp [oneWait, cells_length]
theorem wait_range {W : World} {g8 : Nat} {t : TypeId} {k : Nat} {L : List UInt8} (h : Blk W g8 t (oneWait k L).toArray) : W.rangeAt g8 0 (oneWait k L) := fun j v hv => by
  rw [h.cell]; simpa using hv
theorem wait_new (W : World) (WA : Array Value) (t : TypeId) {k : Nat} {L : List UInt8} (hWA : WA = (oneWait k L).toArray) (s : (oneWait k L).length = 257) : Reads (W.alloc (.cells WA t)) (W.heap.size + 1) 257 (some ⟨W.heap.size, 0, none⟩) 1 (oneWait k L) := by
  subst hWA
  refine ⟨by rw [s], fun h0 => ⟨_, rfl, by simp, fun j u hu => ?_⟩⟩
  have h := heap_alloc_new W (.cells (oneWait k L).toArray t)
  have e : (⟨W.heap.size, 0, none⟩ : Addr).add j = ⟨W.heap.size, j, none⟩ := by unfold Addr.add; split <;> simp_all
  rw [e, (blk_cell h j).1]
  simpa using hu
section
variable {w W : World} {g : Nat} {F : Nat → Prop} {d : Dk} {a ca b cb n : Nat} {V : Value} {ends : Bool} {lf : Int}
theorem write_pre (h : PD w g F d a ca b cb n V ends lf) (hb : Below w.heap.size w W) (g8 : Nat) (k : Nat) (L : List UInt8) (hB : Blk W g8 89 (oneWait k L).toArray) (WA : Array Value) :
    W.cell? ⟨g, 2, none⟩ = some V ∧ (W.alloc (.cells WA 89)).cell? ⟨g, 2, none⟩ = some V ∧ Blk (W.alloc (.cells WA 89)) g8 89 (oneWait k L).toArray ∧
      (W.alloc (.cells WA 89)).ownsRow 0 89 257 V d.waits.length (waitCells d.waits) := by
  have hp : PD W g F d a ca b cb n V ends lf := h.turns (Turns.of_below hb (fun _ => False)) (fun _ _ h => h)
  have hq : PD (W.alloc (.cells WA 89)) g F d a ca b cb n V ends lf := hp.turns (Turns.alloc _ (fun _ => False)) (fun _ _ h => h)
  exact ⟨hp.c2, hq.c2, hB.alloc _, hq.wait⟩
theorem write_mid (h : PD w g F d a ca b cb n V ends lf) (hb : Below w.heap.size w W) (g8 : Nat) (hg8 : w.heap.size ≤ g8) (k : Nat) (hk : k < d.safe.length) (L : List UInt8) (h256 : L.length = 256) (hB : Blk W g8 89 (oneWait k L).toArray) (WA : Array Value)
    {A : Option Addr} (hr : RB w w.heap.size A L) (hA : ∀ ad, A = some ad → ¬ F ad.block)
    {V' : Value} {w5 : World} (ho : w5.ownsRow 0 89 257 V' (d.waits.length + 1) (waitCells d.waits ++ oneWait k L)) (hg : (W.alloc (.cells WA 89)).grownBy w5 V.ownBlock)
    (hat : V'.ownBlock = V.ownBlock ∨ V'.ownBlock = some (W.alloc (.cells WA 89)).heap.size) :
    (w5.cell? ⟨g, 2, none⟩ = some V ∧ Blk w5 g8 89 (oneWait k L).toArray) ∧ w5.frozen? ⟨g, 2, none⟩ = false ∧ (w5.setCell ⟨g, 2, none⟩ V').cell? ⟨g, 1, none⟩ = some (.slice (some ⟨b, 0, none⟩) n cb) ∧
    RB (w5.setCell ⟨g, 2, none⟩ V') w.heap.size A L ∧
    ∃ sp, Blk (w5.setCell ⟨g, 2, none⟩ V') b 5 (cells d.image ++ sp).toArray ∧ ∀ w7, Hid (Blk w7 b 5 (splice (cells d.image ++ sp) (256 * k) (cells L)).toArray) → Hid (Turns (w5.setCell ⟨g, 2, none⟩ V') w7 (fun k => k = b) (fun k => k = b)) →
      ∃ F', PDisk w7 g F' { d with waits := d.waits ++ [(k, L)] } ∧ Turns w w7 F F' := by
  have hp : PD W g F d a ca b cb n V ends lf := h.turns (Turns.of_below hb (fun _ => False)) (fun _ _ h => h)
  have hq : PD (W.alloc (.cells WA 89)) g F d a ca b cb n V ends lf := hp.turns (Turns.alloc _ (fun _ => False)) (fun _ _ h => h)
  have hf := h.good.fit
  have hqs : W.heap.size ≤ (W.alloc (.cells WA 89)).heap.size := by simp
  have t1 : Turns w (W.alloc (.cells WA 89)) F F := (Turns.of_below hb F).trans (Turns.alloc _ F)
  have hBZ : Blk (W.alloc (.cells WA 89)) g8 89 (oneWait k L).toArray := hB.alloc _
  generalize W.alloc (.cells WA 89) = Z at hq hg hat hqs t1 hBZ
  have hF : ∀ k, F k → k < w.heap.size := h.flt
  obtain ⟨n1, n2, n3, n4, n5⟩ := hq.ne
  have hl : (waitCells d.waits ++ oneWait k L) = waitCells (d.waits ++ [(k, L)]) := by rw [waitCells_append]; simp [waitCells, oneWait]
  have hVg : V.ownBlock ≠ some g8 := fun e => by have := hF _ (h.fv _ e); omega
  have b5 : Blk w5 g 85 (diskCells a ca b cb n V ends lf d) := hq.blk.grown hg (fun e => n3 e.symm)
  have b8 : Blk w5 g8 89 (oneWait k L).toArray := hBZ.grown hg (fun e => hVg e.symm)
  obtain ⟨sa, hsa⟩ := hq.safe
  obtain ⟨sb, hsb⟩ := hq.last
  have ba := hsa.grown hg (fun e => n4 e.symm)
  have bb := hsb.grown hg (fun e => n5 e.symm)
  have hV'g : V'.ownBlock ≠ some g := own_blk_ne ho b5 (by decide)
  have hV'b : V'.ownBlock ≠ some b := own_blk_ne ho bb (by decide)
  have hV'lt := fun {k : Nat} (hk : V'.ownBlock = some k) => (own_lt ho hk).1
  have hnew : ∀ k, V'.ownBlock = some k → F k ∨ w.heap.size ≤ k := fun j hj => by
    rcases hat with e | e
    · exact .inl (h.fv _ (e ▸ hj))
    · rw [e] at hj
      injection hj with hj
      have := hb.size
      exact .inr (by omega)
  have t5 : Turns w w5 F F := t1.trans (Turns.grown hg (fun k hk => h.fv k hk))
  have t6 : Turns w (w5.setCell ⟨g, 2, none⟩ V') F F := t5.trans (Turns.set_ h.fg 2 V')
  refine ⟨⟨by rw [b5.cell]; rfl, b8⟩, b5.frozen 2, ?_, ?_, sb, bb.far (p := ⟨g, 2, none⟩) (fun e => n2 e.symm) V', fun w7 h7 ht7 => ?_⟩
  · rw [(b5.set_ 2 V').cell]; rfl
  · exact Reads.turns hr (Nat.le_refl _) t6 hA
  · have h7 := h7.out
    have ht7 := ht7.out
    have hib : 256 * k + L.length ≤ d.image.length := by rw [Dk.image_length hf]; omega
    rw [splice_cells _ _ _ _ hib, ← Dk.image_write hf k L hk h256] at h7
    refine ⟨fun j => F j ∨ V'.ownBlock = some j, ⟨a, ca, b, cb, n, V', ends, lf, ?_⟩, (t6.trans (ht7.wide (E := F) (E' := F) (fun k hk => by rw [hk]; exact h.fb) (fun k hk => .inl hk))).foot_ (fun j hj => by
      rcases hj with h1 | h1
      · exact .inl h1
      · rcases hnew j h1 with h2 | h2
        · exact .inl h2
        · exact .inr h2)⟩
    refine ⟨((b5.set_ 2 V').turns ht7 n2), h.size, h.capa, h.capb, ?_, ⟨sb, h7⟩, ?_, h.ab, .inl h.fg, .inl h.fa, .inl h.fb, fun k hk => .inr hk, fun j hj => ?_, ⟨⟨hf.1, fun x hx => ?_⟩, h.good.few, h.good.many, h.good.left⟩, h.ends_, h.left_⟩
    · exact Arr.turns ⟨sa, ba.far (p := ⟨g, 2, none⟩) (fun e => n1 e.symm) V'⟩ ht7 h.ab
    · rw [hl] at ho
      have h6 : (w5.setCell ⟨g, 2, none⟩ V').ownsRow 0 89 257 V' (d.waits.length + 1) (waitCells (d.waits ++ [(k, L)])) := own_turns ho (turns_own _ g 2 V') (fun k hk e => hV'g (by rw [hk, e]))
      have := own_turns h6 ht7 (fun k hk e => hV'b (by rw [hk, e]))
      simpa using this
    · rcases hj with h1 | h1
      · exact Nat.lt_of_lt_of_le (hF j h1) (Nat.le_trans t6.size ht7.size)
      · exact Nat.lt_of_lt_of_le (hV'lt h1) (Nat.le_trans (by simp [World.setCell]) ht7.size)
    · rcases List.mem_append.1 hx with h1 | h1
      · exact hf.2 x h1
      · rw [List.mem_singleton] at h1; subst h1; exact ⟨hk, h256⟩
end
set_option maxRecDepth 100000 in
set_option maxHeartbeats 4000000 in
theorem write_in {w : World} {g : Nat} {F : Nat → Prop} {d : Dk} {a ca b cb n : Nat} {V : Value} {ends : Bool} {lf : Int} (h : PD w g F d a ca b cb n V ends lf) (k : Nat) (hk : k < d.safe.length) (ho : d.off = false) (hl : d.load ≤ 100000)
    (L : List UInt8) (A : Option Addr) (c : Nat) (hr : RB w w.heap.size A L) (hA : ∀ ad, A = some ad → ¬ F ad.block) (h256 : L.length = 256) (hc : 256 ≤ c) (hcm : c ≤ 9223372036854775807) :
    Calls Tryz.prog 27 #[.pointer (some ⟨g, 0, none⟩), .int .i64 (k : Int), .slice A 256 c] w fun e w' => ∃ F', e = .returned (.int .i64 (d.write (k : Int) L).2) ∧ PDisk w' g F' (d.write (k : Int) L).1 ∧ Turns w w' F F' := by
  have HR := Lib.hid (reach_any ⟨a, ca, b, cb, n, V, ends, lf, h⟩ (k : Int))
  have ht : d.there (k : Int) = true := by unfold Dk.there; exact decide_eq_true (by omega)
  have er : d.reach (k : Int) = 0 := by unfold Dk.reach; rw [ho, ht]; rfl
  rw [er] at HR
  have HS := fun g8 W => sa_all g8 1 W
  obtain ⟨ZA, hZA⟩ : ∃ ZA, ZA = (oneWait 0 (List.replicate 256 0)).toArray := ⟨_, rfl⟩
  obtain ⟨HA, hHA⟩ : ∃ HA, HA = (oneWait k (List.replicate 256 0)).toArray := ⟨_, rfl⟩
  have sH : HA.size = 257 := by rw [hHA]; simp [oneWait, cells_length]
  have sZ : ZA.size = 257 := by rw [hZA]; simp [oneWait, cells_length]
  have hz : (Tryz.prog.info? 89).map (fun i => (i.zero, i.size)) = some (some (.agg ZA), ZA.size) := by rw [hZA]; exact Tryz.writeZero
  have h1 : HA.all (·.oneCell') = true := by rw [hHA]; exact all_oneCell_toArray (oneWait_one _ _)
  have HBd : Hid (Tryz.prog.built 89 [(0, .int .i64 (k : Int))] = some HA) := by
    show _ = _
    rw [Tryz.builtWrite, hHA]; rfl
  have hgw := h.flt g h.fg
  obtain ⟨WA, hWA⟩ : ∃ WA, WA = (oneWait k L).toArray := ⟨_, rfl⟩
  have sW : (oneWait k L).length = 257 := by rw [oneWait_length, h256]
  have sWA : WA.size = 257 := by rw [hWA]; simp [sW]
  have HSW := Lib.hid sW
  have HWA := Lib.hid hWA
  obtain ⟨i0, hi0, hz0, hz1, hz2⟩ := info_parts Tryz.writeInfo
  have H := Lib.hid h
  have HK := Lib.hid hk
  obtain ⟨e1, q, hq⟩ : ∃ e1 q, Dk.deed { d with waits := d.waits ++ [(k, L)] } = (e1, q) := ⟨_, _, rfl⟩
  have HW : Hid (d.write (k : Int) L = Dk.wrote (e1, q)) := by
    show _ = _
    rw [← hq]; exact Dk.write_yes ho ht h256
  have HFa : Hid (∀ (W : World) (F' : Nat → Prop), PDisk W g F' { d with waits := d.waits ++ [(k, L)] } → Calls Tryz.prog 45 #[.pointer (some ⟨g, 0, none⟩)] W fun e w' => e = .returned (.bool (!q)) ∧ Deeds e1 F' W w' g) := fun W F' hp => by
    have := falls_any hp ho
    rwa [hq] at this
  have HWr : Hid (e1.writes < 1000000) := by
    have e : e1.writes = d.writes := by
      have : (Dk.deed { d with waits := d.waits ++ [(k, L)] }).1.writes = d.writes := by
        unfold Dk.deed
        split
        · rfl
        · split <;> rfl
      rwa [hq] at this
    show e1.writes < 1000000
    unfold Dk.load at hl
    omega
  have HBl : Hid (∀ W, Calls Tryz.prog 46 #[.slice (some ⟨b, 0, none⟩) n cb, .int .i64 (k : Int)] W fun e w' => e = .returned (.slice (some ⟨b, 256 * k, none⟩) 256 (cb - 256 * k)) ∧ W = w') := fun W =>
    block_of b n cb k W (by have := h.size; omega) (by have := h.size; have := h.good.many; omega) h.capb.1 h.capb.2
  have Hfit : Hid (256 * k + 256 ≤ d.image.length) := by show _ ≤ _; rw [Dk.image_length h.good.fit]; omega
  have u1 : d.waits.length ≤ 100000 := by unfold Dk.load at hl; omega
  clear hWA sW
  have HStep : Hid (∀ (g8 : Nat) (w1 : World), Hid (w1 = w.alloc (.cells ZA 89)) → Hid (g8 = w.heap.size) → Below w.heap.size w (w1.setRow g8 HA) ∧ Blk (w1.setRow g8 HA) g8 89 (oneWait k (List.replicate 256 0)).toArray) := by
    intro g8 w1 hw1 hg8
    have b1 : Below w.heap.size w w1 := letter_below hw1 (Below.refl _ _) (Nat.le_refl _)
    refine ⟨below_setRow b1 (by have := hg8.out; omega) _, ?_⟩
    rw [← hHA]; exact setRow_heap _ _ _ _ _ _ (letter_blk hw1 hg8)
  have HStep3 : Hid (∀ (g8 : Nat) (w2 w3 : World), Hid (g8 = w.heap.size) → Below w.heap.size w w2 → Hid (Blk w3 g8 89 (splice (oneWait k (List.replicate 256 0)) 1 (cells L)).toArray) → Hid (Turns w2 w3 (fun k => k = g8) (fun k => k = g8)) → Below w.heap.size w w3 ∧ Blk w3 g8 89 (oneWait k L).toArray) := by
    intro g8 w2 w3 hg8 hb2 hB3 hT3
    refine ⟨hb2.trans (hT3.out.below (fun k hk => by rw [hk, hg8.out]; exact Nat.le_refl _) hb2.size), ?_⟩
    have := hB3.out
    rwa [splice_wait k _ L (by rw [h256]; simp)] at this
  have Hcp : Hid ((cells L).length = 256) := by show _ = _; rw [cells_length]; exact h256
  obtain ⟨d8, hd8, hd8r⟩ : ∃ d, Tryz.prog.underlying 89 = some d ∧ d.isRow = true := by
    have := Tryz.writeDesc_
    cases hq : Tryz.prog.underlying 89 with
    | none => simp [hq] at this
    | some d => exact ⟨d, rfl, by simpa [hq] using this⟩
  have HHA := Lib.hid hHA
  have H256 := Lib.hid h256
  have Hr := Lib.hid hr
  have HAF := Lib.hid hA
  clear hHA hZA er h256 hr hA hq ht ho hl hk h hgw
  rcases q with _ | _
  all_goals
    go_enter Tryz.func27, Tryz.ntmps27
    go_wp2_with (first
      | (go_at_call 67; (with_reducible refine HR.out.mono ?_); rintro e w1 ⟨rfl, rfl⟩)
      | (refine wpList_buildTo rfl 89 _ rfl (some 19) rfl HA (Eq.trans (b := Tryz.prog.built 89 [(0, .int .i64 (k : Int))]) (by kernel_rfl) HBd.out) ?_)
      | (refine wpList_alloc_letter rfl 89 rfl (some 8) rfl ZA hz ?_; intro g8 w1 hw1 hg8)
      | (refine wpList_store_rowTo rfl 89 _ _ rfl rfl g8 HA rfl rfl _ _ (letter_blk hw1 hg8) (by rw [sH]; exact Tryz.writeSize) (by rw [sZ, sH]) h1 ?_; obtain ⟨hb2, hB2⟩ := HStep.out g8 w1 hw1 hg8; generalize w1.setRow g8 HA = w2 at hb2 hB2 ⊢)
      | (refine wpList_copy_foot rfl (.tmp 21) (.tmp 22) _ _ rfl 5 Tryz.underlying39 Tryz.size5 (some ⟨g8, 1, none⟩) A 256 256 256 c rfl rfl g8 1 (oneWait k (List.replicate 256 0)) 89 hB2 (cells L) Hcp.out (rb_src (Hr.out.below hb2) _) (by rw [Hcp.out]; simp [oneWait, cells_length]) (cells_one _) ?_; intro w3 hB3 hT3; obtain ⟨hb3, hB3⟩ := HStep3.out g8 w2 w3 hg8 hb2 hB3 hT3))
    have hb4 : Below w.heap.size w w3.drew := hb3.drew
    have hB4 : Blk w3.drew g8 89 (oneWait k L).toArray := hB3.drew
    clear hb3 hB3
    refine region_T (fun W => W.cell? ⟨g, 2, none⟩ = some V ∧ Blk W g8 89 (oneWait k L).toArray) (fun j => decide (8 ≤ j)) (by kernel_rfl) ?_
    generalize w3.drew = W at hb4 hB4 ⊢
    have hB3 := hB4
    obtain ⟨c2, c2a, hB3a, hown⟩ := write_pre H.out hb4 g8 k L hB4 WA
    refine any_asT (a' := ⟨#[.pointer (some ⟨g, 0, none⟩), .int .i64 (k : Int), .slice A 256 c, undef, undef, undef, .int .i64 0, .int .i64 0, .pointer (some ⟨g8, 0, none⟩), .pointer (some ⟨g, 0, none⟩), .int .i64 (k : Int), .int .i64 0, .int .i64 0, .bool false, undef, .slice A 256 c, .int .i64 256, .bool false, .int .i64 (k : Int), .agg HA, .pointer (some ⟨g8, 1, none⟩), .slice (some ⟨g8, 1, none⟩) 256 256, .slice A 256 c, goInt ((cells L).length : Int), undef, undef, undef, undef, undef, undef, undef, undef, undef, undef, undef, undef, undef, undef, undef, undef, undef, undef, undef, undef, undef, undef, undef, undef], []⟩) (by kernel_rfl) (listed' := #[false, false, false, false, false, false, false, false, false, false, false]) (by kernel_rfl) ?_
    refine any_take (i := 0) (.pointer (some ⟨g, 0, none⟩)) rfl (by kernel_rfl) (by kernel_rfl) (by kernel_rfl) rfl (by kernel_rfl) (by kernel_rfl) (fun W hW => by kernel_rfl) ⟨c2, hB3⟩ (listed' := #[true, false, false, false, false, false, false, false, false, false, false]) (a' := ⟨#[.pointer (some ⟨g, 0, none⟩), .int .i64 (k : Int), .slice A 256 c, undef, undef, undef, .int .i64 0, .int .i64 0, .pointer (some ⟨g8, 0, none⟩), .pointer (some ⟨g, 0, none⟩), .int .i64 (k : Int), .int .i64 0, .int .i64 0, .bool false, undef, .slice A 256 c, .int .i64 256, .bool false, .int .i64 (k : Int), .agg HA, .pointer (some ⟨g8, 1, none⟩), .slice (some ⟨g8, 1, none⟩) 256 256, .slice A 256 c, goInt ((cells L).length : Int), .pointer (some ⟨g, 0, none⟩), undef, undef, undef, undef, undef, undef, undef, undef, undef, undef, undef, undef, undef, undef, undef, undef, undef, undef, undef, undef, undef, undef, undef], []⟩) (by kernel_rfl) (by kernel_rfl) (fun _ _ _ h => h) ?_
    refine any_take (i := 1) (.pointer (some ⟨g, 0, none⟩)) rfl (by kernel_rfl) (by kernel_rfl) (by kernel_rfl) rfl (by kernel_rfl) (by kernel_rfl) (fun W hW => by kernel_rfl) ⟨c2, hB3⟩ (listed' := #[true, true, false, false, false, false, false, false, false, false, false]) (a' := ⟨#[.pointer (some ⟨g, 0, none⟩), .int .i64 (k : Int), .slice A 256 c, undef, undef, undef, .int .i64 0, .int .i64 0, .pointer (some ⟨g8, 0, none⟩), .pointer (some ⟨g, 0, none⟩), .int .i64 (k : Int), .int .i64 0, .int .i64 0, .bool false, undef, .slice A 256 c, .int .i64 256, .bool false, .int .i64 (k : Int), .agg HA, .pointer (some ⟨g8, 1, none⟩), .slice (some ⟨g8, 1, none⟩) 256 256, .slice A 256 c, goInt ((cells L).length : Int), .pointer (some ⟨g, 0, none⟩), .pointer (some ⟨g, 0, none⟩), undef, undef, undef, undef, undef, undef, undef, undef, undef, undef, undef, undef, undef, undef, undef, undef, undef, undef, undef, undef, undef, undef], []⟩) (by kernel_rfl) (by kernel_rfl) (fun _ _ _ h => h) ?_
    refine any_take (i := 2) (.pointer (some ⟨g, 0, none⟩)) rfl (by kernel_rfl) (by kernel_rfl) (by kernel_rfl) rfl (by kernel_rfl) (by kernel_rfl) (fun W hW => by kernel_rfl) ⟨c2, hB3⟩ (listed' := #[true, true, true, false, false, false, false, false, false, false, false]) (a' := ⟨#[.pointer (some ⟨g, 0, none⟩), .int .i64 (k : Int), .slice A 256 c, undef, undef, undef, .int .i64 0, .int .i64 0, .pointer (some ⟨g8, 0, none⟩), .pointer (some ⟨g, 0, none⟩), .int .i64 (k : Int), .int .i64 0, .int .i64 0, .bool false, undef, .slice A 256 c, .int .i64 256, .bool false, .int .i64 (k : Int), .agg HA, .pointer (some ⟨g8, 1, none⟩), .slice (some ⟨g8, 1, none⟩) 256 256, .slice A 256 c, goInt ((cells L).length : Int), .pointer (some ⟨g, 0, none⟩), .pointer (some ⟨g, 0, none⟩), .pointer (some ⟨g, 0, none⟩), undef, undef, undef, undef, undef, undef, undef, undef, undef, undef, undef, undef, undef, undef, undef, undef, undef, undef, undef, undef, undef], []⟩) (by kernel_rfl) (by kernel_rfl) (fun _ _ _ h => h) ?_
    refine any_take (i := 3) (.pointer (some ⟨g, 2, none⟩)) rfl (by kernel_rfl) (by kernel_rfl) (by kernel_rfl) rfl (by kernel_rfl) (by kernel_rfl) (fun W hW => by kernel_rfl) ⟨c2, hB3⟩ (listed' := #[true, true, true, true, false, false, false, false, false, false, false]) (a' := ⟨#[.pointer (some ⟨g, 0, none⟩), .int .i64 (k : Int), .slice A 256 c, undef, undef, undef, .int .i64 0, .int .i64 0, .pointer (some ⟨g8, 0, none⟩), .pointer (some ⟨g, 0, none⟩), .int .i64 (k : Int), .int .i64 0, .int .i64 0, .bool false, undef, .slice A 256 c, .int .i64 256, .bool false, .int .i64 (k : Int), .agg HA, .pointer (some ⟨g8, 1, none⟩), .slice (some ⟨g8, 1, none⟩) 256 256, .slice A 256 c, goInt ((cells L).length : Int), .pointer (some ⟨g, 0, none⟩), .pointer (some ⟨g, 0, none⟩), .pointer (some ⟨g, 0, none⟩), .pointer (some ⟨g, 2, none⟩), undef, undef, undef, undef, undef, undef, undef, undef, undef, undef, undef, undef, undef, undef, undef, undef, undef, undef, undef, undef], []⟩) (by kernel_rfl) (by kernel_rfl) (fun _ _ _ h => h) ?_
    refine any_take (i := 4) (V) rfl (by kernel_rfl) (by kernel_rfl) (by kernel_rfl) rfl (by kernel_rfl) (by kernel_rfl) (fun W hW => cell_run 78 (.tmp 27) ⟨g, 2, none⟩ V _ (by kernel_rfl) (by kernel_rfl) hW.1 Tryz.underlying78 rfl (by kernel_rfl)) ⟨c2, hB3⟩ (listed' := #[true, true, true, true, true, false, false, false, false, false, false]) (a' := ⟨#[.pointer (some ⟨g, 0, none⟩), .int .i64 (k : Int), .slice A 256 c, undef, undef, undef, .int .i64 0, .int .i64 0, .pointer (some ⟨g8, 0, none⟩), .pointer (some ⟨g, 0, none⟩), .int .i64 (k : Int), .int .i64 0, .int .i64 0, .bool false, undef, .slice A 256 c, .int .i64 256, .bool false, .int .i64 (k : Int), .agg HA, .pointer (some ⟨g8, 1, none⟩), .slice (some ⟨g8, 1, none⟩) 256 256, .slice A 256 c, goInt ((cells L).length : Int), .pointer (some ⟨g, 0, none⟩), .pointer (some ⟨g, 0, none⟩), .pointer (some ⟨g, 0, none⟩), .pointer (some ⟨g, 2, none⟩), V, undef, undef, undef, undef, undef, undef, undef, undef, undef, undef, undef, undef, undef, undef, undef, undef, undef, undef, undef], []⟩) (by kernel_rfl) (by kernel_rfl) (fun _ _ _ h => h) ?_
    refine any_take (i := 5) (.agg WA) rfl (by kernel_rfl) (by kernel_rfl) (by kernel_rfl) rfl (by kernel_rfl) (by kernel_rfl) (fun W hW => load_run 89 (.tmp 8) g8 0 (oneWait k L) _ (by kernel_rfl) (by kernel_rfl) (wait_range hW.2) hd8 hd8r (by rw [HSW.out]; exact Tryz.writeSize) WA HWA.out.symm) ⟨c2, hB3⟩ (listed' := #[true, true, true, true, true, true, false, false, false, false, false]) (a' := ⟨#[.pointer (some ⟨g, 0, none⟩), .int .i64 (k : Int), .slice A 256 c, undef, undef, undef, .int .i64 0, .int .i64 0, .pointer (some ⟨g8, 0, none⟩), .pointer (some ⟨g, 0, none⟩), .int .i64 (k : Int), .int .i64 0, .int .i64 0, .bool false, undef, .slice A 256 c, .int .i64 256, .bool false, .int .i64 (k : Int), .agg HA, .pointer (some ⟨g8, 1, none⟩), .slice (some ⟨g8, 1, none⟩) 256 256, .slice A 256 c, goInt ((cells L).length : Int), .pointer (some ⟨g, 0, none⟩), .pointer (some ⟨g, 0, none⟩), .pointer (some ⟨g, 0, none⟩), .pointer (some ⟨g, 2, none⟩), V, .agg WA, undef, undef, undef, undef, undef, undef, undef, undef, undef, undef, undef, undef, undef, undef, undef, undef, undef, undef], []⟩) (by kernel_rfl) (by kernel_rfl) (fun _ _ _ h => h) ?_
    refine any_comes (i := 6) (by kernel_rfl) (op_value (a' := ⟨#[.pointer (some ⟨g, 0, none⟩), .int .i64 (k : Int), .slice A 256 c, undef, undef, undef, .int .i64 0, .int .i64 0, .pointer (some ⟨g8, 0, none⟩), .pointer (some ⟨g, 0, none⟩), .int .i64 (k : Int), .int .i64 0, .int .i64 0, .bool false, undef, .slice A 256 c, .int .i64 256, .bool false, .int .i64 (k : Int), .agg HA, .pointer (some ⟨g8, 1, none⟩), .slice (some ⟨g8, 1, none⟩) 256 256, .slice A 256 c, goInt ((cells L).length : Int), .pointer (some ⟨g, 0, none⟩), .pointer (some ⟨g, 0, none⟩), .pointer (some ⟨g, 0, none⟩), .pointer (some ⟨g, 2, none⟩), V, .agg WA, .slice (some ⟨W.heap.size, 0, none⟩) 1 1, undef, undef, undef, undef, undef, undef, undef, undef, undef, undef, undef, undef, undef, undef, undef, undef, undef], []⟩) (.slice (some ⟨W.heap.size, 0, none⟩) 1 1) rfl (by kernel_rfl) (build_run 78 89 (.tmp 29) (by kernel_rfl) WA (by kernel_rfl) Tryz.underlying78 257 Tryz.writeSize (by kernel_rfl) (by omega) (by omega) sWA) (by kernel_rfl) ⟨⟨c2a, hB3a⟩, ?_⟩)
    refine any_comes (i := 7) (by kernel_rfl) (op_append rfl (by kernel_rfl) (.tmp 28) (.tmp 30) 78 rfl 0 89 i0 _ 257 264 Tryz.underlying78 hi0 hz0 hz1 hz2 (by simp [Value.cells, oneWait, cells_length]) (by omega) V d.waits.length (waitCells d.waits) (by kernel_rfl) hown (W.heap.size + 1) (some ⟨W.heap.size, 0, none⟩) 1 1 (oneWait k L) (by kernel_rfl) (wait_new W WA _ HWA.out HSW.out) (oneWait_one _ _) (by unfold maxLen; omega) (by omega) (Nat.zero_le _) ?_)
    intro V' w5 ho5 hg5 hat5
    obtain ⟨gv, cv, hv, _⟩ := ho5.form (by omega)
    subst hv
    obtain ⟨hS5, f5, c6, r6, sp, bb6, HF6⟩ := write_mid H.out hb4 g8 (by rw [hg8.out]; exact Nat.le_refl _) k HK.out L H256.out hB4 WA Hr.out HAF.out ho5 hg5 hat5
    refine ⟨hS5, ?_⟩
    refine any_asT (a' := ⟨#[.pointer (some ⟨g, 0, none⟩), .int .i64 (k : Int), .slice A 256 c, undef, undef, undef, .int .i64 0, .int .i64 0, .pointer (some ⟨g8, 0, none⟩), .pointer (some ⟨g, 0, none⟩), .int .i64 (k : Int), .int .i64 0, .int .i64 0, .bool false, undef, .slice A 256 c, .int .i64 256, .bool false, .int .i64 (k : Int), .agg HA, .pointer (some ⟨g8, 1, none⟩), .slice (some ⟨g8, 1, none⟩) 256 256, .slice A 256 c, goInt ((cells L).length : Int), .pointer (some ⟨g, 0, none⟩), .pointer (some ⟨g, 0, none⟩), .pointer (some ⟨g, 0, none⟩), .pointer (some ⟨g, 2, none⟩), V, .agg WA, .slice (some ⟨W.heap.size, 0, none⟩) 1 1, .slice (some ⟨gv, 0, none⟩) (d.waits.length + 1) cv, undef, undef, undef, undef, undef, undef, undef, undef, undef, undef, undef, undef, undef, undef, undef, undef], []⟩) (by kernel_rfl) (listed' := #[true, true, true, true, true, true, true, true, false, false, false]) (by kernel_rfl) ?_
    refine any_left (by kernel_rfl) ?_
    refine wpAny_tail 8 (by kernel_rfl) (by kernel_rfl) ?_
    simp only [List.drop_succ_cons, List.drop_zero]
    have c5 := hS5.1
    have HF7 := Lib.hid HF6
    have Hbb := Lib.hid bb6
    have Hr6 := Lib.hid r6
    clear hS5 HF6 bb6 r6 hB4 hb4 c2 c2a hB3a hown hB3 ho5 hg5 hat5 hB2 hb2 hi0 hz0 hz1 hz2 h1 hz sH sZ sWA hd8 hd8r
    go_wp2_with (first
      | (go_at_call 46; (with_reducible refine (HBl.out _).mono ?_); rintro e w6 ⟨rfl, rfl⟩)
      | (refine wpList_copy_foot rfl (.tmp 39) (.tmp 40) _ _ rfl 5 Tryz.underlying39 Tryz.size5 (some ⟨b, 256 * k, none⟩) A 256 (cb - 256 * k) 256 c rfl rfl b (256 * k) (cells d.image ++ sp) 5 Hbb.out (cells L) Hcp.out (rb_src Hr6.out _) (by rw [Hcp.out, List.length_append, cells_length]; have := Hfit.out; omega) (cells_one _) ?_; intro w7 h7 ht7; obtain ⟨F', hP7, hT7⟩ := HF7.out w7 h7 ht7; clear h7 ht7)
      | (go_at_call 45; (with_reducible refine (HFa.out _ _ hP7).mono ?_); rintro e w8 ⟨rfl, hP8, hT8⟩; obtain ⟨a8, ca8, b8, cb8, n8, V8, ends8, lf8, hP8⟩ := hP8; have HA8 := Lib.hid (aadd_any g 7 _ w8 HWr.out hP8.c7 (hP8.fz 7)))
      | (go_at_call 47; (with_reducible refine HA8.out.mono ?_); rintro e w9 ⟨rfl, rfl⟩))
  · go_ret
    rw [HW.out]
    simp only [Dk.wrote]
    exact ⟨F', rfl, ⟨_, _, _, _, _, _, _, _, hP8⟩, hT7.trans hT8⟩
  · go_ret
    rw [HW.out]
    simp only [Dk.wrote]
    exact ⟨F', rfl, ⟨_, _, _, _, _, _, _, _, hP8.count7⟩, (hT7.trans hT8).trans (Turns.set_ hP8.fg 7 _)⟩
def WritePost (d : Dk) (i : Int) (L : List UInt8) (g : Nat) (F : Nat → Prop) (w : World) (e : Ending) (w' : World) : Prop :=
  ∃ F', e = .returned (.int .i64 (d.write i L).2) ∧ PDisk w' g F' (d.write i L).1 ∧ Turns w w' F F'
set_option maxRecDepth 100000 in
set_option maxHeartbeats 1000000 in
theorem write_any {w : World} {g : Nat} {F : Nat → Prop} {d : Dk} (h : PDisk w g F d) (i : Int) (hl : d.load ≤ 100000)
    (L : List UInt8) (A : Option Addr) (m c : Nat) (hm : m = L.length) (hr : RB w w.heap.size A L) (hA : ∀ ad, A = some ad → ¬ F ad.block) (hc : m ≤ c) (hcm : c ≤ 9223372036854775807) :
    Calls Tryz.prog 27 #[.pointer (some ⟨g, 0, none⟩), .int .i64 i, .slice A m c] w (WritePost d i L g F w) := by
  have HR := Lib.hid (reach_any h i)
  cases ho : d.off with
  | true =>
    have HV : Hid (d.write i L = (d, 9)) := by show _ = _; unfold Dk.write; rw [if_pos ho]
    have e1 : d.reach i = 9 := by unfold Dk.reach; rw [if_pos ho]
    rw [e1] at HR
    clear ho e1 hm hr hA hl
    go_enter Tryz.func27, Tryz.ntmps27
    go_wp2_with (go_at_call 67; (with_reducible refine HR.out.mono ?_); rintro e w1 ⟨rfl, rfl⟩)
    go_ret
    unfold WritePost
    rw [HV.out]
    exact ⟨F, rfl, h, Turns.refl _ _⟩
  | false =>
    cases ht : d.there i with
    | false =>
      have HV : Hid (d.write i L = (d, 10)) := by show _ = _; unfold Dk.write; rw [ho, ht]; rfl
      have e1 : d.reach i = 10 := by unfold Dk.reach; rw [ho, ht]; rfl
      rw [e1] at HR
      clear ho ht e1 hm hr hA hl
      go_enter Tryz.func27, Tryz.ntmps27
      go_wp2_with (go_at_call 67; (with_reducible refine HR.out.mono ?_); rintro e w1 ⟨rfl, rfl⟩)
      go_ret
      unfold WritePost
      rw [HV.out]
      exact ⟨F, rfl, h, Turns.refl _ _⟩
    | true =>
      by_cases h256 : m = 256
      · subst h256
        obtain ⟨k, rfl, hk⟩ := there_nat ht
        obtain ⟨a, ca, b, cb, n, V, ends, lf, h⟩ := h
        exact write_in h k hk ho hl L A c hr hA hm.symm hc hcm
      · have HV : Hid (d.write i L = (d, 11)) := by
          show _ = _; unfold Dk.write; rw [ho, ht]
          simp only [Bool.false_eq_true, Bool.not_true, if_false]
          rw [if_pos (by omega)]
        have e1 : d.reach i = 0 := by unfold Dk.reach; rw [ho, ht]; rfl
        rw [e1] at HR
        have d0 : (((m : Int) != 256)) = true := by simp; omega
        have d1 : ((m : Int) == 256) = false := by simp; omega
        clear ho ht e1 hm hr hA hl h256
        go_enter Tryz.func27, Tryz.ntmps27
        go_wp2_with (go_at_call 67; (with_reducible refine HR.out.mono ?_); rintro e w1 ⟨rfl, rfl⟩)
        go_ret
        unfold WritePost
        rw [HV.out]
        exact ⟨F, rfl, h, Turns.refl _ _⟩
end Go.Proofs.YtonnkibcnhjelaaGreatDoor
end
section
set_option linter.unusedVariables false
set_option linter.unusedSimpArgs false
namespace Go.Proofs.YtonnkibcnhjelaaGreatDoor
open Go.RowKit
set_option maxRecDepth 100000 in
set_option maxHeartbeats 2000000 in
theorem cput1_any (gb : Nat) (L : List UInt8) (z : Int) (n k : Nat) (w : World) (hz : z = (n : Int)) (hn : n ≤ 2147483647) (hk1 : 1 ≤ k) (hk4 : k ≤ 4) (hnk : n < 256 ^ k) (hL : L.length ≤ 1000) (h : PutAt w gb L) :
    Calls Tryz.prog 64 #[.int .i64 z, .int .i64 (k : Int), .pointer (some ⟨gb, 0, none⟩)] w fun e w' => e = .returned (.tuple #[]) ∧ PutAt w' gb (L ++ fixL k n) ∧ Below gb w w' := by
  subst hz
  obtain ⟨i0, hi0, hz0, hz1, hz2⟩ := info_parts Tryz.info5
  obtain ⟨A, c, hb, ho⟩ := h
  have HF : Hid (∀ W, Calls Tryz.prog 65 #[.int .i64 (n : Int), .int .i64 (k : Int)] W fun e w' => ∃ A' c', e = .returned (.tuple #[.slice A' k c', .int .i64 0]) ∧ Hid (RB w' w'.heap.size A' (fixL k n)) ∧ Below W.heap.size W w') := fun W => by
    refine (fix_yes n k W hn hk1 hk4 hnk).mono fun e w' hh => ?_
    obtain ⟨A', c', he, hown, hb'⟩ := hh
    rw [fixL_length] at he
    exact ⟨A', c', he, own_rb hown, hb'⟩
  have hlt : gb < w.heap.size := hb.lt
  have HB := Lib.hid hb
  have HO := Lib.hid ho
  obtain ⟨q, hq⟩ : ∃ q, q = L.length := ⟨_, rfl⟩
  have HQ := Lib.hid hq
  rw [← hq] at HB HO hL
  have c0 : w.cell? ⟨gb, 0, none⟩ = some (.slice A q c) := HB.out.cell 0
  have f0 : w.frozen? ⟨gb, 0, none⟩ = false := HB.out.frozen 0
  clear hb ho hnk hq
  go_enter Tryz.func64, Tryz.ntmps64
  go_wp2_with (first
    | (go_at_call 65; (with_reducible refine (HF.out _).mono ?_); rintro e w1 ⟨A1, c1, rfl, hr1, hb1⟩; have k0 := (hb1.cell (p := ⟨gb, 0, none⟩) hlt).trans c0; have k1 := (hb1.frozen (p := ⟨gb, 0, none⟩) hlt).trans f0)
    | (at_builtin; refine wpList_append_any _ rfl (.tmp 13) (.tmp 14) 39 rfl gb 5 i0 _ 1 1 Tryz.underlying39 hi0 hz0 hz1 hz2 rfl (by omega) (.slice A q c) q (cells L) rfl (own_kept HO.out hb1) w1.heap.size A1 k c1 (cells (fixL k n)) rfl (by have := hr1.out; unfold RB at this; rwa [fixL_length] at this) (cells_one _) (by simp only [maxLen]; omega) (by omega) (by have := hb1.size; omega) ?_; intro v2 w2 ho2 hg2 hat2; have hbk := (HB.out.below hb1 hlt).grown hg2 (ne_row (HB.out.below hb1 hlt) (own_kept HO.out hb1)); have k2 := hbk.cell 0; have k3 := hbk.frozen 0; obtain ⟨A2, c2, rfl⟩ := own_form ho2))
  go_end0
  have hl : (L ++ fixL k n).length = q + k := by rw [List.length_append, fixL_length, HQ.out]
  have hbb : Below gb w w2 := (hb1.mono (Nat.le_of_lt hlt)).grown hg2 (by have := hb1.size; omega) (fun j hj => ((own_kept HO.out hb1).lt j hj).1)
  refine ⟨rfl, ⟨A2, c2, ?_, ?_⟩, hbb.setCell (Nat.le_refl _) _⟩
  · rw [hl]
    exact hbk.set_ 0 _
  · rw [hl, cells_append]
    refine own_turns ho2 (Turns.set_ (F := fun j => j = gb) rfl 0 _) (fun j hj e => ?_)
    exact ne_row hbk ho2 (by rw [hj, e])
theorem seal_cput {P D : List UInt8} {m r base : Nat} {s : Ce} (A : Option Addr) (c : Nat) (W w : World) (hr : r = 242 - m) (hB : s.body = P ++ D ++ List.replicate (242 - m) 0) (ho : W.ownsRow base 5 1 (.slice A 252 c) 252 (cells P ++ cells D ++ cells (List.replicate r 0))) (hb : Below w.heap.size w W) :
    Hid (Calls Tryz.prog 66 #[.slice A 252 c] W fun e w' => ∃ A c, e = .returned (.slice A 256 c) ∧ Hid (GivesBytes s.bytes w (.returned (.tuple #[.slice A 256 c, .int .i64 0])) w')) := by
  subst hr
  rw [← cells_append, ← cells_append, ← hB] at ho
  have hL : s.body.length = 252 := by have := ho.1; rw [cells_length] at this; omega
  have hrb : RB W W.heap.size A s.body := by
    refine Reads.of_own (base := base) (e := 5) (c := c) ?_
    rw [hL]; exact ho
  have h1 := seal_any s.body A c W.heap.size W hrb (by omega)
  rw [hL] at h1
  refine h1.mono fun e w' hh => ?_
  obtain ⟨A, c, he, ho, hb'⟩ := hh
  have e2 : (sealL s.body).length = 256 := by rw [sealL_length, hL]
  rw [e2] at he
  refine ⟨A, c, he, A, c, ?_, ?_, chain7 hb hb'⟩
  · show _ = Ending.returned (.tuple #[.slice A (sealL s.body).length c, _])
    rw [e2]
  · exact Joins.ownsRow_le ho hb.size
set_option maxRecDepth 100000 in
set_option maxHeartbeats 4000000 in
theorem cput_no (s : Ce) (A : Option Addr) (c : Nat) (w : World) (h : s.may = false) :
    Calls Tryz.prog 26 #[ceV s A c] w fun e w' => e = .returned (.tuple #[.slice none 0 0, .int .i64 1]) ∧ Below w.heap.size w w' := by
  have HM : Hid (∀ W, Calls Tryz.prog 61 #[ceV s A c] W fun e w' => e = .returned (.bool false) ∧ Below W.heap.size W w') := fun W => by rw [← h]; exact cmaybe_any s A c W
  have HB : Hid (Below w.heap.size w (w.alloc (.cells #[.int .i64 s.owner, .int .i64 s.number, .int .i64 s.next, .slice A s.data.length c] 64))) := (Below.refl _ _).alloc (Nat.le_refl _) _
  have a24 := fun w' => Tryz.aggCell w'
  have s24 := fun w' => Tryz.sizeCell w'
  have nf := fun w' => Tryz.notFalse w'
  have nt := fun w' => Tryz.notTrue w'
  unfold ceV at HM ⊢
  clear h
  go_enter Tryz.func26, Tryz.ntmps26
  go_wp2_with (first
    | (go_at_call 61; (with_reducible refine (HM.out _).mono ?_); rintro e w1 ⟨rfl, hb1⟩))
  go_ret2
  exact ⟨rfl, chain7 HB.out hb1⟩
set_option maxRecDepth 100000 in
set_option maxHeartbeats 8000000 in
theorem cput_yes (s : Ce) (A : Option Addr) (c : Nat) (w : World) (h : s.may = true) (hr : RB w w.heap.size A s.data) :
    Calls Tryz.prog 26 #[ceV s A c] w (GivesBytes s.bytes w) := by
  have HM : Hid (∀ W, Calls Tryz.prog 61 #[ceV s A c] W fun e w' => e = .returned (.bool true) ∧ Below W.heap.size W w') := fun W => by rw [← h]; exact cmaybe_any s A c W
  obtain ⟨i0, hi0, hz0, hz1, hz2⟩ := info_parts Tryz.info5
  obtain ⟨h1, h2, h3, h4, h5, h6, h7, h8⟩ := s.may_iff.1 h
  clear h
  obtain ⟨oz, nz, xz, D⟩ := s
  simp only at h1 h2 h3 h4 h5 h6 h7 h8 hr
  obtain ⟨o, rfl⟩ : ∃ k : Nat, oz = (k : Int) := ⟨oz.toNat, by omega⟩
  obtain ⟨n, rfl⟩ : ∃ k : Nat, nz = (k : Int) := ⟨nz.toNat, by omega⟩
  obtain ⟨x, rfl⟩ : ∃ k : Nat, xz = (k : Int) := ⟨xz.toNat, by omega⟩
  obtain ⟨m, hm⟩ : ∃ m, m = D.length := ⟨_, rfl⟩
  obtain ⟨P1, hP1⟩ : ∃ X, X = fixL 4 o := ⟨_, rfl⟩
  obtain ⟨P2, hP2⟩ : ∃ X, X = P1 ++ fixL 2 n := ⟨_, rfl⟩
  obtain ⟨P3, hP3⟩ : ∃ X, X = P2 ++ fixL 2 x := ⟨_, rfl⟩
  obtain ⟨P4, hP4⟩ : ∃ X, X = P3 ++ fixL 2 m := ⟨_, rfl⟩
  have l1 : P1.length = 4 := by rw [hP1, fixL_length]
  have l2 : P2.length = 6 := by rw [hP2, List.length_append, fixL_length, l1]
  have l3 : P3.length = 8 := by rw [hP3, List.length_append, fixL_length, l2]
  have l4 : P4.length = 10 := by rw [hP4, List.length_append, fixL_length, l3]
  have HL4 := Lib.hid l4
  have hm242 : m ≤ 242 := by omega
  have HBd : Hid (Ce.body ⟨(o : Int), (n : Int), (x : Int), D⟩ = P4 ++ D ++ List.replicate (242 - m) 0) := by
    show _ = _
    unfold Ce.body Ce.head
    simp only [Int.toNat_natCast, hP4, hP3, hP2, hP1, ← hm]
    simp
  have HC1 : Hid (∀ gb W, Hid (PutAt W gb []) → Calls Tryz.prog 64 #[.int .i64 (o : Int), .int .i64 4, .pointer (some ⟨gb, 0, none⟩)] W fun e w' => e = .returned (.tuple #[]) ∧ Hid (PutAt w' gb P1) ∧ Below gb W w') := fun gb W h => by
    have := cput1_any gb [] (o : Int) o 4 W rfl (by omega) (by omega) (by omega) (by omega) (by simp) h.out
    rw [List.nil_append, ← hP1] at this
    exact this
  have HC2 : Hid (∀ gb W, Hid (PutAt W gb P1) → Calls Tryz.prog 64 #[.int .i64 (n : Int), .int .i64 2, .pointer (some ⟨gb, 0, none⟩)] W fun e w' => e = .returned (.tuple #[]) ∧ Hid (PutAt w' gb P2) ∧ Below gb W w') := fun gb W h => by
    have := cput1_any gb P1 (n : Int) n 2 W rfl (by omega) (by omega) (by omega) (by omega) (by omega) h.out
    rw [← hP2] at this
    exact this
  have HC3 : Hid (∀ gb W, Hid (PutAt W gb P2) → Calls Tryz.prog 64 #[.int .i64 (x : Int), .int .i64 2, .pointer (some ⟨gb, 0, none⟩)] W fun e w' => e = .returned (.tuple #[]) ∧ Hid (PutAt w' gb P3) ∧ Below gb W w') := fun gb W h => by
    have := cput1_any gb P2 (x : Int) x 2 W rfl (by omega) (by omega) (by omega) (by omega) (by omega) h.out
    rw [← hP3] at this
    exact this
  have HC4 : Hid (∀ gb W, Hid (PutAt W gb P3) → Calls Tryz.prog 64 #[.int .i64 (m : Int), .int .i64 2, .pointer (some ⟨gb, 0, none⟩)] W fun e w' => e = .returned (.tuple #[]) ∧ Hid (PutAt w' gb P4) ∧ Below gb W w') := fun gb W h => by
    have := cput1_any gb P3 (m : Int) m 2 W rfl (by omega) (by omega) (by omega) (by omega) (by omega) h.out
    rw [← hP4] at this
    exact this
  have HR : Hid (∀ W, Below (w.alloc (.cells #[.int .i64 (o : Int), .int .i64 (n : Int), .int .i64 (x : Int), .slice A m c] 64)).heap.size (w.alloc (.cells #[.int .i64 (o : Int), .int .i64 (n : Int), .int .i64 (x : Int), .slice A m c] 64)) W → Hid (Reads W W.heap.size 1 A m (cells D))) := fun W hb => by
    have h2 := rb_up7 (rb_up7 hr ((Below.refl _ _).alloc (Nat.le_refl _) _)) hb
    unfold RB at h2
    rw [← hm] at h2
    exact h2
  have HS : Hid (∀ W, Below (w.alloc (.cells #[.int .i64 (o : Int), .int .i64 (n : Int), .int .i64 (x : Int), .slice A m c] 64)).heap.size (w.alloc (.cells #[.int .i64 (o : Int), .int .i64 (n : Int), .int .i64 (x : Int), .slice A m c] 64)) W → W.cell? ⟨w.heap.size, 0, none⟩ = some (.int .i64 (o : Int)) ∧ W.cell? ⟨w.heap.size, 1, none⟩ = some (.int .i64 (n : Int)) ∧ W.cell? ⟨w.heap.size, 2, none⟩ = some (.int .i64 (x : Int)) ∧ W.cell? ⟨w.heap.size, 3, none⟩ = some (.slice A m c)) := fun W hb => cell_at w W _ _ _ A m c hb
  have HB : Hid (Below w.heap.size w (w.alloc (.cells #[.int .i64 (o : Int), .int .i64 (n : Int), .int .i64 (x : Int), .slice A m c] 64))) := (Below.refl _ _).alloc (Nat.le_refl _) _
  obtain ⟨t7, ht7⟩ : ∃ t, t = 10 + m := ⟨_, rfl⟩
  obtain ⟨r, hrr⟩ : ∃ t, t = 242 - m := ⟨_, rfl⟩
  have y0 : IntKind.i64.wrap (242 - (m : Int)) = (r : Int) := by rw [IntWalk.i64_in _ (by omega)]; omega
  have HT : Hid (10 + m = t7 ∧ t7 + r = 252 ∧ r = 242 - m) := ⟨by omega, by omega, by omega⟩
  have a24 := fun w' => Tryz.aggCell w'
  have s24 := fun w' => Tryz.sizeCell w'
  have nf := fun w' => Tryz.notFalse w'
  have nt := fun w' => Tryz.notTrue w'
  have hmf : ∀ (fn : Fn) (first cap : Array Value) (w : World), (Instr.makeFunc fn first cap).run Tryz.prog w = .ok (.func fn first cap) w := fun _ _ _ _ => rfl
  unfold ceV at HM ⊢
  simp only at HM ⊢
  rw [← hm] at HM ⊢
  clear hP1 hP2 hP3 hP4 l1 l2 l3 l4 hr ht7 hrr hm h1 h2 h3 h4 h5 h6 h7 h8
  go_enter Tryz.func26, Tryz.ntmps26
  go_wp2_with (first
    | (go_at_call 61; (with_reducible refine (HM.out _).mono ?_); rintro e w1 ⟨rfl, b1⟩; have b1a := b1.alloc b1.size (.cells #[.slice none 0 0] 39); have p0 := Lib.hid (put_new w1); obtain ⟨q0, q1, q2, q3⟩ := HS.out _ b1a)
    | (go_at_call 64; (with_reducible refine (HC1.out _ _ p0).mono ?_); rintro e w2 ⟨rfl, p1, hb2⟩; have b2 := b1a.trans (hb2.mono b1.size); obtain ⟨q0, q1, q2, q3⟩ := HS.out _ b2)
    | (go_at_call 64; (with_reducible refine (HC2.out _ _ p1).mono ?_); rintro e w3 ⟨rfl, p2, hb3⟩; have b3 := b2.trans (hb3.mono b1.size); obtain ⟨q0, q1, q2, q3⟩ := HS.out _ b3)
    | (go_at_call 64; (with_reducible refine (HC3.out _ _ p2).mono ?_); rintro e w4 ⟨rfl, p3, hb4⟩; have b4 := b3.trans (hb4.mono b1.size); obtain ⟨q0, q1, q2, q3⟩ := HS.out _ b4)
    | (go_at_call 64; (with_reducible refine (HC4.out _ _ p3).mono ?_); rintro e w6 ⟨rfl, p5, hb6⟩; have b6 := b4.trans (hb6.mono b1.size); obtain ⟨q0, q1, q2, q3⟩ := HS.out _ b6; obtain ⟨A6, c6, hblk, hown⟩ := p5.out; rw [HL4.out] at hblk hown; have k0 := hblk.cell 0; have k1 := hblk.frozen 0; have r6 := HR.out _ b6; have z6 := Nat.le_of_lt (Blk.lt hblk))
    | (at_builtin; refine wpList_append_any _ rfl (.tmp 27) (.tmp 29) 39 rfl w1.heap.size 5 i0 _ 1 1 Tryz.underlying39 hi0 hz0 hz1 hz2 rfl (by omega) (.slice A6 10 c6) 10 (cells P4) rfl hown w6.heap.size A m c (cells D) rfl r6.out (cells_one _) (by simp only [maxLen]; omega) (by omega) z6 ?_; intro v7 w7 ho7 hg7 hat7; rw [HT.out.1] at ho7; obtain ⟨A7, c7, rfl⟩ := own_form ho7; have hbk7 := hblk.grown hg7 (ne_row hblk hown); have k2 := hbk7.cell 0; have k3 := hbk7.frozen 0; have b7 := b6.grown hg7 (by have := b6.size; omega) (fun j hj => Nat.le_trans b1.size (hown.lt j hj).1); have b7s := b7.setCell (p := ⟨w1.heap.size, 0, none⟩) b1.size (.slice A7 t7 c7); obtain ⟨q0, q1, q2, q3⟩ := HS.out _ b7s; have hbk7s := hbk7.set_ 0 (.slice A7 t7 c7); have k4 := hbk7s.cell 0; have k5 := hbk7s.frozen 0; have ho7s := own_turns ho7 (Turns.set_ (F := fun j => j = w1.heap.size) rfl 0 (.slice A7 t7 c7)) (fun j hj e => ne_row hbk7 ho7 (by rw [hj, e])); have z7 := Nat.le_of_lt (Blk.lt hbk7s))
    | (at_builtin; refine wpList_append_make _ rfl (.tmp 31) (.tmp 35) 39 3 rfl w1.heap.size 5 i0 _ 1 1 .i64 Tryz.underlying39 Tryz.underlying3 hi0 hz0 hz1 hz2 rfl (by omega) (.slice A7 t7 c7) t7 (cells P4 ++ cells D) rfl ho7s r rfl (cells (List.replicate r 0)) (zero_bytes r) (cells_one _) (by have := HT.out; simp only [maxLen]; omega) (by have := HT.out; omega) z7 ?_; intro v8 w8 ho8 hg8 hat8; rw [HT.out.2.1] at ho8; obtain ⟨A8, c8, rfl⟩ := own_form ho8; have hbk8 := hbk7s.grown hg8 (ne_row hbk7s ho7s); have k6 := hbk8.cell 0; have k7 := hbk8.frozen 0; have b8 := b7s.grown hg8 (by have := b7s.size; omega) (fun j hj => Nat.le_trans b1.size (ho7s.lt j hj).1); have b8s := b8.setCell (p := ⟨w1.heap.size, 0, none⟩) b1.size (.slice A8 252 c8); have ho8s := own_turns ho8 (Turns.set_ (F := fun j => j = w1.heap.size) rfl 0 (.slice A8 252 c8)) (fun j hj e => ne_row hbk8 ho8 (by rw [hj, e])); have HSe := seal_cput A8 c8 _ w HT.out.2.2 HBd.out ho8s (HB.out.trans (b8s.mono HB.out.size)))
    | (go_at_call 66; (with_reducible refine HSe.out.mono ?_); rintro e w9 ⟨A0, c0, rfl, hG⟩))
  go_ret2
  exact hG.out
theorem cput_any (s : Ce) (A : Option Addr) (c : Nat) (w : World) (hr : RB w w.heap.size A s.data) (hl : s.data.length ≤ 1000000) :
    Calls Tryz.prog 26 #[ceV s A c] w fun e w' => (s.may = true → GivesBytes s.bytes w e w') ∧ (s.may = false → e = .returned (.tuple #[.slice none 0 0, .int .i64 1]) ∧ Below w.heap.size w w') := by
  cases hv : s.may with
  | true => exact (cput_yes s A c w hv hr).mono fun e w' h => ⟨fun _ => h, fun h' => absurd h' (by decide)⟩
  | false => exact (cput_no s A c w hv).mono fun e w' h => ⟨fun h' => absurd h' (by decide), fun _ => h⟩
end Go.Proofs.YtonnkibcnhjelaaGreatDoor
end
