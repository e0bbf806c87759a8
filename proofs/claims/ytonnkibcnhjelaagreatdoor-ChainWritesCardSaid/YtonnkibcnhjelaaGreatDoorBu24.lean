/- Lemmas under the proofs of this place: ChainPMem, Store3, ChainPSmall, DiskRImage, DiskPFlush. No statement is proved here. -/
import Derived.Test.YtonnkibcnhjelaaGreatDoorBu20
import Derived.Test.YtonnkibcnhjelaaGreatDoorBu12
import Derived.Test.YtonnkibcnhjelaaGreatDoorBu13
import Derived.Test.YtonnkibcnhjelaaGreatDoorBu06
import Derived.Deep.MidRow
import Derived.Deep.RegionHeldLaw
section
set_option linter.unusedVariables false
namespace Go.Proofs.YtonnkibcnhjelaaGreatDoor
open Go.RowKit
def PDeeds (D : Dk) (F : Nat → Prop) (w w' : World) (g : Nat) : Prop := ∃ F', PDisk w' g F' D ∧ Turns w w' F F'
section
variable {w w1 w2 W : World} {g gp : Nat} {F : Nat → Prop} {d d1 d2 : Dk}
theorem PDeeds.start (h : PDisk w g F d) : PDeeds d F w w g := ⟨F, h, Turns.refl _ _⟩
theorem PDeeds.more (h : PDeeds d F w w1 g) (hb : Below w1.heap.size w1 w2) : PDeeds d F w w2 g := by
  obtain ⟨F', hr, ht⟩ := h
  exact ⟨F', hr.below hb, ht.trans (Turns.of_below hb F')⟩
theorem PDeeds.andThen (h : PDeeds d1 F w w1 g) (h2 : ∀ F', PDisk w1 g F' d1 → PDeeds d2 F' w1 w2 g) : PDeeds d2 F w w2 g := by
  obtain ⟨F', hr, ht⟩ := h
  obtain ⟨F'', hr2, ht2⟩ := h2 F' hr
  exact ⟨F'', hr2, ht.trans ht2⟩
theorem PDeeds.cell (h : PDeeds d F w w1 g) {p : Addr} (hp : p.block < w.heap.size) (hn : ¬ F p.block) : w1.cell? p = w.cell? p := by
  obtain ⟨F', hr, ht⟩ := h
  exact ht.cell hp hn
theorem PDeeds.blk (h : PDeeds d F w w1 g) {t : TypeId} {cs : Array Value} {k : Nat} (hg : Blk w k t cs) (hn : ¬ F k) : Blk w1 k t cs := by
  obtain ⟨F', hr, ht⟩ := h
  exact hg.turns ht hn
theorem PDeeds.size (h : PDeeds d F w w1 g) : w.heap.size ≤ w1.heap.size := by
  obtain ⟨F', hr, ht⟩ := h
  exact ht.size
theorem PDeeds.rb (h : PDeeds d F w w1 g) {A : Option Addr} {L : List UInt8} (hr : RB w w.heap.size A L) (hn : ∀ ad, A = some ad → ¬ F ad.block) : RB w1 w1.heap.size A L := by
  obtain ⟨F', _, ht⟩ := h
  exact (Reads.turns hr (Nat.le_refl _) ht hn).more ht.size
theorem PDeeds.store (h : PDeeds d F w1 w2 g) (hw : Below w.heap.size w w1) (hF : ∀ k, F k → k < w.heap.size) (hg1 : w.heap.size ≤ gp) (hg2 : gp < w1.heap.size) (ht : Turns w2 W (fun k => k = gp) (fun k => k = gp)) : PDeeds d F w W g := by
  obtain ⟨F', hr, htt⟩ := h
  have hnF : ¬ F' gp := fun hk => by
    rcases htt.foot gp hk with h1 | h1
    · have := hF gp h1; omega
    · omega
  refine ⟨F', hr.turns ht (fun k hk e => hnF (e ▸ hk)), ?_⟩
  have ht2 := (Turns.of_below hw F).trans htt
  exact ⟨ht.os.trans ht2.os, ht.tape.trans ht2.tape, ht.output.trans ht2.output, Nat.le_trans ht2.size ht.size, fun k hk hn => (ht.block k (Nat.lt_of_lt_of_le hk ht2.size) (fun e => by omega)).trans (ht2.block k hk hn), ht2.foot⟩
end
theorem pwrite_deeds {w0 w w1 : World} {g : Nat} {F : Nat → Prop} {d : Dk} (h : PDeeds d F w0 w g) (hb : Below w.heap.size w w1) (i : Int) (hl : d.load ≤ 100000) (L : List UInt8) (A : Option Addr) (m c : Nat) (hm : m = L.length) (hr : RB w1 w1.heap.size A L) (hA : ∀ ad, A = some ad → w.heap.size ≤ ad.block) (hc : m ≤ c) (hcm : c ≤ 9223372036854775807) :
    Calls Tryz.prog 27 #[.pointer (some ⟨g, 0, none⟩), .int .i64 i, .slice A m c] w1 fun e w' => e = .returned (.int .i64 (d.write i L).2) ∧ PDeeds (d.write i L).1 F w0 w' g := by
  obtain ⟨F', hr', ht⟩ := h
  refine (write_any (hr'.below hb) i hl L A m c hm hr (fun ad e hk => ?_) hc hcm).mono fun e w' hh => ?_
  · have h1 := hA ad e
    have h2 := hr'.flt ad.block hk
    omega
  · obtain ⟨F'', he, hp, ht2⟩ := hh
    exact ⟨he, F'', hp, (ht.trans (Turns.of_below hb F')).trans ht2⟩
theorem CLN.below {w w' : World} {base : Nat} {A : Option Addr} {l : List Ce} (h : CLN w base A l) (hb : Below w.heap.size w w') : CLN w' base A l := fun h0 => by
  obtain ⟨b, off, e, hlt, hp, hc⟩ := h h0
  refine ⟨b, off, e, Nat.lt_of_lt_of_le hlt hb.size, hp, fun i hi => ?_⟩
  obtain ⟨dA, dc, h1, h2, c0, c1, c2, c3⟩ := hc i hi
  have k : ∀ j, w'.cell? ⟨b, j, none⟩ = w.cell? ⟨b, j, none⟩ := fun j => hb.cell (p := ⟨b, j, none⟩) hlt
  exact ⟨dA, dc, rb_up7 h1 hb, h2, by rw [k]; exact c0, by rw [k]; exact c1, by rw [k]; exact c2, by rw [k]; exact c3⟩
theorem own_ge {w : World} {base c : Nat} {A : Option Addr} {L : List UInt8} (h : Own w base A L c) : ∀ ad, A = some ad → base ≤ ad.block := by
  intro ad e
  rcases h.2 with ⟨h1, _⟩ | ⟨k, cap, cur, he, h2, _⟩
  · injection h1 with h1; rw [h1] at e; cases e
  · injection he with h1; rw [h1] at e; cases e; exact h2
end Go.Proofs.YtonnkibcnhjelaaGreatDoor
end
section
set_option linter.unusedVariables false
namespace Go.Proofs.YtonnkibcnhjelaaGreatDoor
open Go.RowKit
theorem there_three {w : World} {g : Nat} {t : TypeId} {v0 v1 v2 : Value} (h : Blk w g t #[v0, v1, v2]) : w.there g 0 3 := fun j hj => by
  refine ⟨?_, h.frozen _⟩
  rw [h.cell]
  rcases (show j = 0 ∨ j = 1 ∨ j = 2 by omega) with rfl | rfl | rfl <;> rfl
theorem op_store3 {ops : Array Oper} {Q : Exit → Act → World → Prop} {i : Nat} {oi : Oper} {K : Act → World → Prop} {a : Act} {w : World} (gp : Nat) (u0 u1 u2 : Int) {v0 v1 v2 : Value} (x y : Operand) (hi : ops[i]? = some oi) (hw : Region.wanted oi (yielded ops a.tmps) = true) (ho : oi.op = .store 35 x y) (hd : oi.dst = none)
    (hx : a.eval x = .pointer (some ⟨gp, 0, none⟩)) (hy : a.eval y = .agg #[.int .i64 u0, .int .i64 u1, .int .i64 u2]) (hb : Blk w gp 35 #[v0, v1, v2])
    (h : K a (((w.setCell ⟨gp, 0, none⟩ (.int .i64 u0)).setCell ⟨gp, 1, none⟩ (.int .i64 u1)).setCell ⟨gp, 2, none⟩ (.int .i64 u2))) : wpOp Tryz.prog ops Q i K a w := by
  refine wpOp_step hi fun K' hK => ?_
  rw [if_pos hw]
  refine wp_store_mid 35 x y ho gp 0 _ hx hy (there_three hb) (by kernel_rfl) (by simp [Value.oneCell']) ?_
  rw [hd]
  exact hK _ _ h
end Go.Proofs.YtonnkibcnhjelaaGreatDoor
end
section
set_option linter.unusedVariables false
set_option linter.unusedSimpArgs false
namespace Go.Proofs.YtonnkibcnhjelaaGreatDoor
open Go.RowKit
def isBlk (n m : Int) : Bool := decide (2 ≤ n) && decide (n < m)
theorem pisblock_gives (n m : Int) (v : Bool) (hv : isBlk n m = v) (w : World) : Calls Tryz.prog 53 #[.int .i64 n, .int .i64 m] w fun e w' => e = .returned (.bool v) ∧ w = w' := by
  unfold isBlk at hv
  by_cases h : 2 ≤ n
  · have d : decide (2 ≤ n) = true := decide_eq_true h
    rw [d, Bool.true_and] at hv
    subst hv
    go_enter Tryz.func53, Tryz.ntmps53
    go_wp2
    go_ret
    exact ⟨rfl, rfl⟩
  · have d : decide (2 ≤ n) = false := decide_eq_false h
    rw [d, Bool.false_and] at hv
    subst hv
    go_enter Tryz.func53, Tryz.ntmps53
    go_wp2
    go_ret
    exact ⟨rfl, rfl⟩
theorem pwithin_gives (n a b : Int) (v : Bool) (hv : (decide (a ≤ n) && decide (n ≤ b)) = v) (w : World) : Calls Tryz.prog 54 #[.int .i64 n, .int .i64 a, .int .i64 b] w fun e w' => e = .returned (.bool v) ∧ w = w' := by
  by_cases h : a ≤ n
  · have d : decide (a ≤ n) = true := decide_eq_true h
    rw [d, Bool.true_and] at hv
    subst hv
    go_enter Tryz.func54, Tryz.ntmps54
    go_wp2
    go_ret
    exact ⟨rfl, rfl⟩
  · have d : decide (a ≤ n) = false := decide_eq_false h
    rw [d, Bool.false_and] at hv
    subst hv
    go_enter Tryz.func54, Tryz.ntmps54
    go_wp2
    go_ret
    exact ⟨rfl, rfl⟩
theorem may_eq (p : Pt) (n : Int) : p.may n = (isBlk p.first n && ((decide (1 ≤ p.size) && decide (p.size ≤ 262144)) && (decide (1 ≤ p.owner) && decide (p.owner ≤ 2147483647)))) := by
  unfold Pt.may isBlk
  simp only [Bool.and_assoc]
set_option maxRecDepth 100000 in
set_option maxHeartbeats 2000000 in
theorem chpart_any (p : Pt) (n : Int) (w : World) :
    Calls Tryz.prog 22 #[ptV p, .int .i64 n] w fun e w' => e = .returned (.bool (p.may n)) ∧ Below w.heap.size w w' := by
  have HV := Lib.hid (may_eq p n)
  obtain ⟨f, s, o⟩ := p
  have HB : Hid (∀ W, Below w.heap.size w W → Below w.heap.size w W) := fun W h => h
  show Calls Tryz.prog 22 #[.agg #[.int .i64 f, .int .i64 s, .int .i64 o], .int .i64 n] w _
  cases h1 : isBlk f n with
  | false =>
    have H1 : Hid (∀ W, Calls Tryz.prog 53 #[.int .i64 f, .int .i64 n] W fun e w' => e = .returned (.bool false) ∧ W = w') := fun W => pisblock_gives f n false h1 W
    have R : Hid (Pt.may ⟨f, s, o⟩ n = false) := by have := HV.out; rw [this]; show (isBlk f n && _) = false; rw [h1]; rfl
    clear h1 HV
    go_enter Tryz.func22, Tryz.ntmps22
    go_wp2_with (go_at_call 53; (with_reducible refine (H1.out _).mono ?_); rintro e w1 ⟨rfl, rfl⟩)
    go_ret
    rw [R.out]
    exact ⟨rfl, (Below.refl _ _).alloc (Nat.le_refl _) _⟩
  | true =>
    have H1 : Hid (∀ W, Calls Tryz.prog 53 #[.int .i64 f, .int .i64 n] W fun e w' => e = .returned (.bool true) ∧ W = w') := fun W => pisblock_gives f n true h1 W
    cases h2 : (decide (1 ≤ s) && decide (s ≤ 262144)) with
    | false =>
      have H2 : Hid (∀ W, Calls Tryz.prog 54 #[.int .i64 s, .int .i64 1, .int .i64 262144] W fun e w' => e = .returned (.bool false) ∧ W = w') := fun W => pwithin_gives s 1 262144 false h2 W
      have R : Hid (Pt.may ⟨f, s, o⟩ n = false) := by have := HV.out; rw [this]; show (isBlk f n && ((decide (1 ≤ s) && decide (s ≤ 262144)) && _)) = false; rw [h1, h2]; rfl
      clear h1 h2 HV
      go_enter Tryz.func22, Tryz.ntmps22
      go_wp2_with (first | (go_at_call 53; (with_reducible refine (H1.out _).mono ?_); rintro e w1 ⟨rfl, rfl⟩) | (go_at_call 54; (with_reducible refine (H2.out _).mono ?_); rintro e w1 ⟨rfl, rfl⟩))
      go_ret
      rw [R.out]
      exact ⟨rfl, (Below.refl _ _).alloc (Nat.le_refl _) _⟩
    | true =>
      have H2 : Hid (∀ W, Calls Tryz.prog 54 #[.int .i64 s, .int .i64 1, .int .i64 262144] W fun e w' => e = .returned (.bool true) ∧ W = w') := fun W => pwithin_gives s 1 262144 true h2 W
      obtain ⟨v, h3⟩ : ∃ v, (decide (1 ≤ o) && decide (o ≤ 2147483647)) = v := ⟨_, rfl⟩
      have H3 : Hid (∀ W, Calls Tryz.prog 54 #[.int .i64 o, .int .i64 1, .int .i64 2147483647] W fun e w' => e = .returned (.bool v) ∧ W = w') := fun W => pwithin_gives o 1 2147483647 v h3 W
      have R : Hid (Pt.may ⟨f, s, o⟩ n = v) := by have := HV.out; rw [this]; show (isBlk f n && ((decide (1 ≤ s) && decide (s ≤ 262144)) && (decide (1 ≤ o) && decide (o ≤ 2147483647)))) = v; rw [h1, h2, h3]; simp
      clear h1 h2 h3 HV
      go_enter Tryz.func22, Tryz.ntmps22
      go_wp2_with (first | (go_at_call 53; (with_reducible refine (H1.out _).mono ?_); rintro e w1 ⟨rfl, rfl⟩) | (go_at_call 54; (with_reducible refine (H2.out _).mono ?_); rintro e w1 ⟨rfl, rfl⟩) | (go_at_call 54; (with_reducible refine (H3.out _).mono ?_); rintro e w1 ⟨rfl, rfl⟩))
      go_ret
      rw [R.out]
      exact ⟨rfl, (Below.refl _ _).alloc (Nat.le_refl _) _⟩
end Go.Proofs.YtonnkibcnhjelaaGreatDoor
end
section
set_option linter.unusedVariables false
namespace Go.Proofs.YtonnkibcnhjelaaGreatDoor
open Go.RowKit
def nowK (d : Dk) (k : Nat) : List UInt8 := (List.range k).flatMap d.now
theorem nowK_succ (d : Dk) (k : Nat) : nowK d (k + 1) = nowK d k ++ d.now k := by unfold nowK; rw [List.range_succ, List.flatMap_append]; simp
set_option maxRecDepth 100000 in
set_option maxHeartbeats 2000000 in
theorem rimage_any {w : World} {g : Nat} {G B : Nat → Prop} {d : Dk} (h : RDisk w g G B d) (hl : d.load ≤ 100000) :
    Calls Tryz.prog 42 #[.pointer (some ⟨g, 0, none⟩)] w (GivesOne d.image w) := by
  obtain ⟨i0, hi0, hz0, hz1, hz2⟩ := info_parts Tryz.info5
  have H := Lib.hid h
  obtain ⟨m, hm⟩ : ∃ m, m = d.safe.length := ⟨_, rfl⟩
  have Hm := Lib.hid hm
  have hmany := h.good.many
  rw [← hm] at hmany
  have HN : Hid (∀ W (k : Nat), Below w.heap.size w W → k < m → Calls Tryz.prog 74 #[.pointer (some ⟨g, 0, none⟩), .int .i64 (k : Int)] W fun e w' => (∃ b off c, e = .returned (.slice (some ⟨b, off, none⟩) 256 c) ∧ Hid (Reads W W.heap.size 1 (some ⟨b, off, none⟩) 256 (cells (d.now k)))) ∧ W = w') := fun W k hb hk => by
    refine (now_any (h.below hb) k (by omega) (by unfold Dk.load at hl; omega)).mono ?_
    rintro e w' ⟨⟨v, rfl, h256, b, off, c, rfl, _, _, _, hr⟩, rfl⟩
    refine ⟨⟨b, off, c, rfl, ?_⟩, rfl⟩
    unfold RB at hr
    rw [h256] at hr
    exact hr
  have HR0 : Hid (∀ W, Below w.heap.size w W → ∃ s cs, W.cell? ⟨g, 0, none⟩ = some (.slice (some ⟨s, 0, none⟩) m cs)) := fun W hb => by
    obtain ⟨s, cs, V, hs, hv, h⟩ := h.below hb
    exact ⟨s, cs, by rw [hm]; exact h.r0⟩
  clear h hm hl
  go_enter Tryz.func42, Tryz.ntmps42
  go_wp2
  go_loopw [3, 4] (fun v x wr => ∃ k : Nat, k ≤ m ∧ x = .int .i64 (k : Int) ∧ Hid (wr.ownsRow w.heap.size 5 1 v (256 * k) (cells (nowK d k))) ∧ Below w.heap.size w wr) (fun _ x _ => m - (intOf x).toNat)
  case atStart => exact ⟨0, by omega, rfl, World.ownsRow_nil _ _ _ _, Below.refl _ _⟩
  case round =>
    obtain ⟨k, hk, rfl, HO, hb⟩ := hrel
    obtain ⟨s, cs, r0⟩ := HR0.out wr hb
    by_cases hlt : k < m
    · have u0 : (0 : Int) ≤ (k : Int) := by omega
      have u1 : (k : Int) < (m : Int) := by omega
      have d0 : decide ((k : Int) < (m : Int)) = true := decide_eq_true u1
      have hN := Lib.hid (HN.out wr k hb hlt)
      go_wp2_with (first
        | (go_at_call 74; (with_reducible refine hN.out.mono ?_); rintro e w2 ⟨⟨b, off, c, rfl, hR⟩, rfl⟩)
        | (at_builtin; refine wpList_append_any _ rfl (.tmp 14) (.tmp 17) _ rfl w.heap.size 5 i0 _ 1 1 Tryz.underlying39 hi0 hz0 hz1 hz2 rfl (by omega) u3 (256 * k) (cells (nowK d k)) rfl HO.out _ (some ⟨b, off, none⟩) 256 c (cells (d.now k)) rfl hR.out (cells_one _) (by simp only [maxLen]; omega) (by omega) hb.size ?_; intro v5 w5 ho5 hg5 hat5; have HO5 : Hid (w5.ownsRow w.heap.size 5 1 v5 (256 * (k + 1)) (cells (nowK d (k + 1)))) := (by show World.ownsRow _ _ _ _ _ _ _; rw [nowK_succ, cells_append, show 256 * (k + 1) = 256 * k + 256 by omega]; exact ho5); have hb5 : Below w.heap.size w w5 := hb.grown hg5 hb.size (fun j hj => (HO.out.lt j hj).1)))
      refine ⟨⟨k + 1, by omega, by go_num, HO5, hb5⟩, ?_⟩
      simp [intOf]; omega
    · have hkm : k = m := by omega
      have d0 : decide ((k : Int) < (m : Int)) = false := decide_eq_false (by omega)
      have d1 : decide (k < m) = false := decide_eq_false hlt
      have HOE : Hid (wr.ownsRow w.heap.size 5 1 u3 d.image.length (cells d.image)) := by
        show World.ownsRow _ _ _ _ _ _ _
        have h1 := HO.out
        rw [hkm] at h1
        rw [Dk.image_length H.out.good.fit, ← Hm.out]
        have : nowK d m = d.image := by unfold nowK Dk.image; rw [Hm.out]
        rw [← this]; exact h1
      clear hkm HO hk hlt HN HR0
      go_wp2
      go_ret
      obtain ⟨A3, c3, hv⟩ := own_form HOE.out
      exact ⟨A3, c3, by rw [hv]; rfl, by have := HOE.out; rw [hv] at this; exact this, hb⟩
theorem Hdr.form {w : World} {B : Nat → Prop} {v : Value} {L : List UInt8} (h : Hdr w B v L) : ∃ b off c, v = .slice (some ⟨b, off, none⟩) 256 c ∧ Hid (Reads w w.heap.size 1 (some ⟨b, off, none⟩) 256 (cells L)) := by
  obtain ⟨h256, b, off, c, rfl, _, _, _, hr⟩ := h
  refine ⟨b, off, c, rfl, ?_⟩
  unfold RB at hr
  rw [h256] at hr
  exact hr
set_option maxRecDepth 100000 in
set_option maxHeartbeats 2000000 in
theorem rsure_any {w : World} {g : Nat} {G B : Nat → Prop} {d : Dk} (h : RDisk w g G B d) :
    Calls Tryz.prog 44 #[.pointer (some ⟨g, 0, none⟩)] w (GivesOne d.sure w) := by
  obtain ⟨i0, hi0, hz0, hz1, hz2⟩ := info_parts Tryz.info5
  have H := Lib.hid h
  obtain ⟨m, hm⟩ : ∃ m, m = d.safe.length := ⟨_, rfl⟩
  have Hm := Lib.hid hm
  have hmany := h.good.many
  rw [← hm] at hmany
  have HR0 : Hid (∀ W (k : Nat) (hk : k < d.safe.length), Below w.heap.size w W → ∃ s cs b off c, W.cell? ⟨g, 0, none⟩ = some (.slice (some ⟨s, 0, none⟩) m cs) ∧ W.cell? ⟨s, k, none⟩ = some (.slice (some ⟨b, off, none⟩) 256 c) ∧ Hid (Reads W W.heap.size 1 (some ⟨b, off, none⟩) 256 (cells d.safe[k]))) := fun W k hk hb => by
    obtain ⟨s, cs, V, hs, hv, h⟩ := h.below hb
    obtain ⟨v, _, h1, h2⟩ := h.at_ hk
    obtain ⟨b, off, c, rfl, h3⟩ := h2.form
    exact ⟨s, cs, b, off, c, by rw [hm]; exact h.r0, h1, h3⟩
  have HR1 : Hid (∀ W, Below w.heap.size w W → ∃ s cs, W.cell? ⟨g, 0, none⟩ = some (.slice (some ⟨s, 0, none⟩) m cs)) := fun W hb => by
    obtain ⟨s, cs, V, hs, hv, h⟩ := h.below hb
    exact ⟨s, cs, by rw [hm]; exact h.r0⟩
  clear h hm
  go_enter Tryz.func44, Tryz.ntmps44
  go_wp2
  go_loopw [3, 4] (fun v x wr => ∃ k : Nat, k ≤ m ∧ x = .int .i64 (k : Int) ∧ Hid (wr.ownsRow w.heap.size 5 1 v (256 * k) (cells (d.safe.take k).flatten)) ∧ Below w.heap.size w wr) (fun _ x _ => m - (intOf x).toNat)
  case atStart => exact ⟨0, by omega, rfl, World.ownsRow_nil _ _ _ _, Below.refl _ _⟩
  case round =>
    obtain ⟨k, hk, rfl, HO, hb⟩ := hrel
    by_cases hlt : k < m
    · have hk2 : k < d.safe.length := by have := Hm.out; omega
      obtain ⟨s, cs, b, off, c, r0, r1, hR⟩ := HR0.out wr k hk2 hb
      have hsn : Hid ((d.safe.take (k + 1)).flatten = (d.safe.take k).flatten ++ d.safe[k]) := by
        show _ = _
        rw [List.take_succ_eq_append_getElem hk2, List.flatten_append]; simp
      have u0 : (0 : Int) ≤ (k : Int) := by omega
      have u1 : (k : Int) < (m : Int) := by omega
      go_wp2_with (first
        | (at_builtin; refine wpList_append_any _ rfl (.tmp 14) (.tmp 21) _ rfl w.heap.size 5 i0 _ 1 1 Tryz.underlying39 hi0 hz0 hz1 hz2 rfl (by omega) u3 (256 * k) (cells (d.safe.take k).flatten) rfl HO.out _ (some ⟨b, off, none⟩) 256 c (cells d.safe[k]) rfl hR.out (cells_one _) (by simp only [maxLen]; omega) (by omega) hb.size ?_; intro v5 w5 ho5 hg5 hat5; have HO5 : Hid (w5.ownsRow w.heap.size 5 1 v5 (256 * (k + 1)) (cells (d.safe.take (k + 1)).flatten)) := (by show World.ownsRow _ _ _ _ _ _ _; rw [hsn.out, cells_append, show 256 * (k + 1) = 256 * k + 256 by omega]; exact ho5); have hb5 : Below w.heap.size w w5 := hb.grown hg5 hb.size (fun j hj => (HO.out.lt j hj).1)))
      refine ⟨⟨k + 1, by omega, by go_num, HO5, hb5⟩, ?_⟩
      simp [intOf]; omega
    · have hkm : k = m := by omega
      obtain ⟨s, cs, r0⟩ := HR1.out wr hb
      have d0 : decide ((k : Int) < (m : Int)) = false := decide_eq_false (by omega)
      have d1 : decide (k < m) = false := decide_eq_false hlt
      have HOE : Hid (wr.ownsRow w.heap.size 5 1 u3 d.sure.length (cells d.sure)) := by
        show World.ownsRow _ _ _ _ _ _ _
        have h1 := HO.out
        rw [hkm, Hm.out, List.take_length] at h1
        have h2 : d.sure.length = 256 * d.safe.length := Dk.flatten_length H.out.good.fit.1
        rw [h2]; exact h1
      clear hkm HO hk hlt HR0 HR1
      go_wp2
      go_ret
      obtain ⟨A3, c3, hv⟩ := own_form HOE.out
      exact ⟨A3, c3, by rw [hv]; rfl, by have := HOE.out; rw [hv] at this; exact this, hb⟩
end Go.Proofs.YtonnkibcnhjelaaGreatDoor
end
section
set_option linter.unusedVariables false
namespace Go.Proofs.YtonnkibcnhjelaaGreatDoor
open Go.RowKit
section
variable {w w' : World} {g : Nat} {F : Nat → Prop} {d : Dk} {a ca b cb n : Nat} {V : Value} {ends : Bool} {lf : Int}
theorem PD.row (h : PD w g F d a ca b cb n V ends lf) (h0 : 0 < d.waits.length) : ∃ gv cv, V = .slice (some ⟨gv, 0, none⟩) d.waits.length cv ∧ gv ≠ a ∧ gv ≠ b ∧ gv ≠ g ∧ gv < w.heap.size ∧ d.waits.length ≤ cv ∧ cv ≤ 9223372036854775807 ∧
    (∀ i (hi : i < d.waits.length), w.cell? ⟨gv, i * 257, none⟩ = some (.int .i64 ((d.waits[i]).1 : Int)) ∧ ∀ j, j < 256 → w.cell? ⟨gv, i * 257 + 1 + j, none⟩ = (cells (d.waits[i]).2)[j]?) := by
  obtain ⟨n1, n2, n3, n4, n5⟩ := h.ne
  have hw := h.wait
  obtain ⟨c, rfl⟩ : ∃ c, c = V := ⟨_, rfl⟩
  rcases h.wait.2 with ⟨_, h1⟩ | ⟨k, cap, cur, rfl, h2, h3, h4, h5, h6, h7⟩
  · omega
  · refine ⟨k, cap, rfl, fun e => n4 (by simp [Value.ownBlock, e]), fun e => n5 (by simp [Value.ownBlock, e]), fun e => n3 (by simp [Value.ownBlock, e]), Blk.lt (t := 89) h3, h4, h5, fun i hi => ?_⟩
    have hx : ∀ x ∈ d.waits, x.2.length = 256 := fun x hx => (h.good.fit.2 x hx).2
    have hc := World.ownsRow.cells hw (g := k) rfl
    have ea : ∀ j, (⟨k, 0, none⟩ : Addr).add j = ⟨k, j, none⟩ := fun j => by unfold Addr.add; split <;> simp_all
    have hl := waitCells_length d.waits hx
    have hat : ∀ j, j < 257 → w.cell? ⟨k, i * 257 + j, none⟩ = (Value.int .i64 ((d.waits[i]).1 : Int) :: cells (d.waits[i]).2)[j]? := fun j hj => by
      have h8 := waitCells_get d.waits hx i hi j hj
      have hlt : i * 257 + j < (waitCells d.waits).length := by rw [hl]; omega
      have h9 := hc (i * 257 + j) _ (List.getElem?_eq_getElem hlt)
      rw [ea] at h9
      rw [h9, ← h8, List.getElem?_eq_getElem hlt]
    refine ⟨by first | (simp; done) | simpa using hat 0 (by omega), fun j hj => ?_⟩
    have := hat (1 + j) (by omega)
    rw [show i * 257 + 1 + j = i * 257 + (1 + j) by omega, this, show 1 + j = j + 1 by omega, List.getElem?_cons_succ]
end
theorem flush_end {w1 wr : World} {g : Nat} {F : Nat → Prop} {d : Dk} {a ca b cb n : Nat} {V : Value} {ends : Bool} {lf : Int} (h : PD w1 g F d a ca b cb n V ends lf) (ht : Turns w1 wr (fun k => k = a) (fun k => k = a)) (hA : Arr wr a (Dk.laid d.safe d.waits).flatten) :
    PD (wr.setCell ⟨g, 2, none⟩ (.slice none 0 0)) g F { d with safe := Dk.laid d.safe d.waits, waits := [] } a ca b cb n (.slice none 0 0) ends lf ∧ Turns w1 (wr.setCell ⟨g, 2, none⟩ (.slice none 0 0)) F F := by
  obtain ⟨n1, n2, n3, n4, n5⟩ := h.ne
  have hs : (Dk.laid d.safe d.waits).length = d.safe.length := Dk.laid_length _ _
  have t2 : Turns w1 (wr.setCell ⟨g, 2, none⟩ (.slice none 0 0)) F F := (ht.wide (E := F) (E' := F) (fun k hk => by rw [hk]; exact h.fa) (fun k hk => .inl hk)).trans (Turns.set_ h.fg 2 _)
  have b1 : Blk wr g 85 (diskCells a ca b cb n V ends lf d) := h.blk.turns ht n1
  refine ⟨⟨b1.set_ 2 (.slice none 0 0), by rw [hs]; exact h.size, h.capa, h.capb, hA.set_far (fun e => n1 e.symm) _, ?_, World.ownsRow_nil _ _ _ _, h.ab, h.fg, h.fa, h.fb, fun k hk => by simp [Value.ownBlock] at hk, fun k hk => Nat.lt_of_lt_of_le (h.flt k hk) t2.size,
    ⟨⟨Dk.laid_fit _ _ h.good.fit.1 (fun x hx => (h.good.fit.2 x hx).2), fun x hx => by cases hx⟩, by rw [hs]; exact h.good.few, by rw [hs]; exact h.good.many, h.good.left⟩, h.ends_, h.left_⟩, t2⟩
  rw [Dk.image_calm _ rfl, show ({ d with safe := Dk.laid d.safe d.waits, waits := [] } : Dk).safe = d.nows from Dk.laid_nows d, ← Dk.image_nows]
  exact (h.last.turns ht (fun e => h.ab e.symm)).set_far (fun e => n2 e.symm) _
set_option maxRecDepth 100000 in
set_option maxHeartbeats 4000000 in
theorem flush_in {w : World} {g : Nat} {F : Nat → Prop} {d : Dk} (h0 : PDisk w g F d) (ho : d.off = false) (hl : d.load ≤ 100000) (e1 : Dk) (hq : d.deed = (e1, true)) :
    Calls Tryz.prog 14 #[.pointer (some ⟨g, 0, none⟩)] w fun e w' => e = .returned (.int .i64 0) ∧ Deeds { e1 with safe := Dk.laid e1.safe e1.waits, waits := [], flushes := e1.flushes + 1 } F w w' g := by
  have z0 := fun w' => Tryz.dIsNil g w'
  have c3 : w.cell? ⟨g, 3, none⟩ = some (.bool false) := by
    obtain ⟨a, ca, b, cb, n, V, ends, lf, h⟩ := h0
    rw [← ho]; exact h.c3
  have HFa : Hid (Calls Tryz.prog 45 #[.pointer (some ⟨g, 0, none⟩)] w fun e w' => e = .returned (.bool false) ∧ Deeds e1 F w w' g) := by
    have := falls_any h0 ho
    rwa [hq] at this
  have HQ := Lib.hid hq
  have HL : Hid (e1.load ≤ 100000) := by
    have : d.deed.1.load ≤ 100000 := by
      unfold Dk.deed
      split
      · exact hl
      · split
        · exact hl
        · exact hl
    rwa [hq] at this
  clear hq hl h0 ho
  go_enter Tryz.func14, Tryz.ntmps14
  go_wp2_with (first
    | (go_at_call 45; (with_reducible refine HFa.out.mono ?_); rintro e w1 ⟨rfl, hP1, hT1⟩; obtain ⟨a, ca, b, cb, n, V, ends, lf, hP⟩ := hP1; obtain ⟨A, c, rfl, hc1, hc2⟩ := hP.vform; have k2 := hP.c2; have HP := Lib.hid hP; have HT := Lib.hid hT1; obtain ⟨m, hm⟩ : ∃ m, m = e1.waits.length := ⟨_, rfl⟩; rw [← hm] at k2 hc1; have Hm := Lib.hid hm; clear hP hT1 hm))
  go_loopw [20] (fun x wr => ∃ i : Nat, i ≤ m ∧ x = .int .i64 (i : Int) ∧ Hid (Turns w1 wr (fun k => k = a) (fun k => k = a)) ∧ Hid (Arr wr a (Dk.laid e1.safe (e1.waits.take i)).flatten)) (fun x _ => m - (intOf x).toNat)
  case atStart => exact ⟨0, by omega, rfl, Turns.refl _ _, by show Arr _ _ _; rw [List.take_zero]; exact HP.out.safe⟩
  case round =>
    obtain ⟨i, hi, rfl, HT2, HA⟩ := hrel
    have HPr : Hid (∀ k, k ≠ a → ∀ j, k < w1.heap.size → wr.cell? ⟨k, j, none⟩ = w1.cell? ⟨k, j, none⟩) := fun k hk j hlt => HT2.out.cell (p := ⟨k, j, none⟩) hlt hk
    have r2 : wr.cell? ⟨g, 2, none⟩ = some (.slice A m c) := by rw [HPr.out g HP.out.ne.1 2 (HP.out.flt g HP.out.fg)]; exact k2
    have r0 : wr.cell? ⟨g, 0, none⟩ = some (.slice (some ⟨a, 0, none⟩) n ca) := by rw [HPr.out g HP.out.ne.1 0 (HP.out.flt g HP.out.fg)]; exact HP.out.c0
    by_cases hlt : i < m
    · obtain ⟨gv, cv, hV, hva, hvb, hvg, hvl, hm1, hm2, hcell⟩ := HP.out.row (by have := Hm.out; omega)
      obtain ⟨rfl, -, rfl⟩ : A = some ⟨gv, 0, none⟩ ∧ m = e1.waits.length ∧ c = cv := by
        have := Hm.out
        simp only [Value.slice.injEq] at hV
        exact ⟨hV.1, this, hV.2.2⟩
      have hi2 : i < e1.waits.length := by have := Hm.out; omega
      obtain ⟨hcn, hcb⟩ := hcell i hi2
      obtain ⟨x, hx⟩ : ∃ x, x = e1.waits[i] := ⟨_, rfl⟩
      rw [← hx] at hcn hcb
      rw [← HPr.out gv hva _ hvl] at hcn
      have u0 : (0 : Int) ≤ (i : Int) := by omega
      have u1 : (i : Int) < (m : Int) := by omega
      have HA' := HA.out
      obtain ⟨sp, hsp⟩ := HA'
      have hfit := HP.out.good.fit
      have hxm : x ∈ e1.waits := by rw [hx]; exact List.getElem_mem hi2
      obtain ⟨hx1, hx2⟩ := hfit.2 x hxm
      obtain ⟨xn, xb⟩ := x
      simp only at hx1 hx2 hcn hcb
      have hsz := HP.out.size
      have hmany := HP.out.good.many
      have hlf : ∀ b ∈ Dk.laid e1.safe (e1.waits.take i), b.length = 256 := Dk.laid_fit _ _ hfit.1 (fun y hy => (hfit.2 y (List.mem_of_mem_take hy)).2)
      have hll : (Dk.laid e1.safe (e1.waits.take i)).length = e1.safe.length := Dk.laid_length _ _
      have hlen : (Dk.laid e1.safe (e1.waits.take i)).flatten.length = 256 * e1.safe.length := by rw [Dk.flatten_length hlf, hll]
      have HNew : Hid (∀ w7, Hid (Blk w7 a 5 (splice (cells (Dk.laid e1.safe (e1.waits.take i)).flatten ++ sp) (256 * xn) (cells xb)).toArray) → Arr w7 a (Dk.laid e1.safe (e1.waits.take (i + 1))).flatten) := by
        intro w7 h7
        have h7 := h7.out
        rw [splice_cells _ _ _ _ (by rw [hlen]; omega), ← Dk.flatten_set _ _ _ hlf (by rw [hll]; exact hx1) hx2] at h7
        refine ⟨sp, ?_⟩
        rw [List.take_succ_eq_append_getElem hi2, ← hx, Dk.laid_snoc]
        exact h7
      have Hcp : Hid ((cells xb).length = 256) := by show _ = _; rw [cells_length]; exact hx2
      have Hft : Hid (256 * xn + (cells xb).length ≤ (cells (Dk.laid e1.safe (e1.waits.take i)).flatten ++ sp).length) := by show _ ≤ _; rw [List.length_append, cells_length, cells_length, hlen]; omega
      obtain ⟨cur, hcur⟩ : ∃ cur, cur = cells (Dk.laid e1.safe (e1.waits.take i)).flatten ++ sp := ⟨_, rfl⟩
      rw [← hcur] at hsp HNew Hft
      have Hsp := Lib.hid hsp
      have HBl := fun W => Lib.hid (block_of a n ca xn W (by omega) (by omega) HP.out.capa.1 HP.out.capa.2)
      have HBl2 := Lib.hid HBl
      have HS := fun W => sa_all gv (i * 257 + 1) W
      have Hsrc : Hid (∀ j v, (cells xb)[j]? = some v → wr.cell? ((⟨gv, i * 257 + 1, none⟩ : Addr).add j) = some v) := by
        intro j v hv
        have hj : j < 256 := by have := (List.getElem?_eq_some_iff.1 hv).1; rw [Hcp.out] at this; exact this
        rw [add_at, HPr.out gv hva _ hvl, hcb j hj]; exact hv
      have Hg : Hid (∀ w7, Hid (Turns wr.drew w7 (fun k => k = a) (fun k => k = a)) → (w7.cell? ⟨g, 0, none⟩ = some (.slice (some ⟨a, 0, none⟩) n ca) ∧ w7.cell? ⟨gv, i * 257, none⟩ = some (.int .i64 (xn : Int))) ∧ Turns w1 w7 (fun k => k = a) (fun k => k = a)) := by
        intro w7 h7
        have hs := HT2.out.size
        refine ⟨⟨?_, ?_⟩, HT2.out.trans (Turns.of_drew h7.out)⟩
        · rw [h7.out.cell (p := ⟨g, 0, none⟩) (by have := HP.out.flt g HP.out.fg; show g < wr.heap.size; omega) HP.out.ne.1]; exact r0
        · rw [h7.out.cell (p := ⟨gv, i * 257, none⟩) (show gv < wr.heap.size by omega) hva]; exact hcn
      clear hV hcell hcb HA hsp hfit hxm hx1 hx2 hsz hmany hlf hll hlen hcur HBl
      go_wp2
      go_region_held_law (fun w' => w'.cell? ⟨g, 0, none⟩ = some (.slice (some ⟨a, 0, none⟩) n ca) ∧ w'.cell? ⟨gv, i * 257, none⟩ = some (.int .i64 (xn : Int)))
        (first | exact ⟨r0, hcn⟩ | exact (Hg.out w7 ht7).1)
        (first
          | (refine step_copy_foot rfl (.tmp 37) (.tmp 41) _ _ rfl 5 Tryz.underlying39 Tryz.size5 (some ⟨a, 256 * xn, none⟩) (some ⟨gv, i * 257 + 1, none⟩) 256 (ca - 256 * xn) 256 256 rfl rfl a (256 * xn) cur 5 Hsp.out.drew (cells xb) Hcp.out (fun _ => ⟨rfl, _, rfl, Hsrc.out⟩) Hft.out (cells_one _) ?_; intro w7 h7 ht7)
          | (go_at_call 46; (with_reducible refine (HBl2.out _).out.mono ?_); rintro e w6 ⟨rfl, rfl⟩))
      have HT7 := (Hg.out w7 ht7).2
      have HA7 := HNew.out w7 h7
      go_wp2
      refine ⟨⟨i + 1, by omega, by go_num, HT7, HA7⟩, ?_⟩
      simp [intOf]; omega
    · have him : i = m := by omega
      have hi2 : e1.waits.take i = e1.waits := by rw [him, Hm.out]; exact List.take_length
      have HA' := HA.out
      rw [hi2] at HA'
      have d0 : decide ((i : Int) < (m : Int)) = false := decide_eq_false (by omega)
      have d1 : decide (i < m) = false := decide_eq_false hlt
      have fz2 : wr.frozen? ⟨g, 2, none⟩ = false := by rw [HT2.out.frozen (p := ⟨g, 2, none⟩) (HP.out.flt g HP.out.fg) HP.out.ne.1]; exact HP.out.fz 2
      have HEnd := Lib.hid (flush_end HP.out HT2.out HA')
      have HAd : Hid (Calls Tryz.prog 47 #[.pointer (some ⟨g, 8, none⟩), .int .i64 1] (wr.setCell ⟨g, 2, none⟩ (.slice none 0 0)) fun e w' => w' = (wr.setCell ⟨g, 2, none⟩ (.slice none 0 0)).setCell ⟨g, 8, none⟩ (.int .i64 ((e1.flushes + 1 : Nat) : Int)) ∧ e = .returned (.int .i64 ((e1.flushes + 1 : Nat) : Int))) :=
        aadd_any g 8 e1.flushes _ (by have := HL.out; unfold Dk.load at this; omega) HEnd.out.1.c8 (HEnd.out.1.fz 8)
      clear him hi2 HA' HA hlt hi
      go_wp2_with (first
        | (go_at_call 47; (with_reducible refine HAd.out.mono ?_); rintro e w9 ⟨rfl, rfl⟩))
      go_ret
      exact ⟨rfl, ⟨_, _, _, _, _, _, _, _, HEnd.out.1.count8⟩, (HT.out.trans HEnd.out.2).trans (Turns.set_ HP.out.fg 8 _)⟩
theorem Dk.flush_yes {d e1 : Dk} (ho : d.off = false) (hq : d.deed = (e1, true)) : d.flush = ({ e1 with safe := Dk.laid e1.safe e1.waits, waits := [], flushes := e1.flushes + 1 }, 0) := by
  unfold Dk.flush; rw [ho, hq]; rfl
theorem Dk.flush_no {d e1 : Dk} (ho : d.off = false) (hq : d.deed = (e1, false)) : d.flush = (e1, 9) := by
  unfold Dk.flush; rw [ho, hq]; rfl
set_option maxRecDepth 100000 in
theorem flush_any {w : World} {g : Nat} {F : Nat → Prop} {d : Dk} (h : PDisk w g F d) (hl : d.load ≤ 100000) :
    Calls Tryz.prog 14 #[.pointer (some ⟨g, 0, none⟩)] w fun e w' => e = .returned (.int .i64 d.flush.2) ∧ Deeds d.flush.1 F w w' g := by
  have z0 := fun w' => Tryz.dIsNil g w'
  cases ho : d.off with
  | true =>
    have HV : Hid (d.flush = (d, 9)) := by show _ = _; unfold Dk.flush; rw [if_pos ho]
    have c3 : w.cell? ⟨g, 3, none⟩ = some (.bool true) := by
      obtain ⟨a, ca, b, cb, n, V, ends, lf, h⟩ := h
      rw [← ho]; exact h.c3
    clear ho hl
    go_enter Tryz.func14, Tryz.ntmps14
    go_wp2
    go_ret
    rw [HV.out]
    exact ⟨rfl, h, Turns.refl _ _⟩
  | false =>
    obtain ⟨e1, q, hq⟩ : ∃ e1 q, d.deed = (e1, q) := ⟨_, _, rfl⟩
    cases q with
    | true =>
      rw [Dk.flush_yes ho hq]
      exact flush_in h ho hl e1 hq
    | false =>
      rw [Dk.flush_no ho hq]
      have c3 : w.cell? ⟨g, 3, none⟩ = some (.bool false) := by
        obtain ⟨a, ca, b, cb, n, V, ends, lf, h⟩ := h
        rw [← ho]; exact h.c3
      have HFa : Hid (Calls Tryz.prog 45 #[.pointer (some ⟨g, 0, none⟩)] w fun e w' => e = .returned (.bool true) ∧ Deeds e1 F w w' g) := by
        have := falls_any h ho
        rwa [hq] at this
      clear ho hq hl h
      go_enter Tryz.func14, Tryz.ntmps14
      go_wp2_with (go_at_call 45; (with_reducible refine HFa.out.mono ?_); rintro e w1 ⟨rfl, hP1⟩)
      go_ret
      exact ⟨rfl, hP1⟩
end Go.Proofs.YtonnkibcnhjelaaGreatDoor
end
