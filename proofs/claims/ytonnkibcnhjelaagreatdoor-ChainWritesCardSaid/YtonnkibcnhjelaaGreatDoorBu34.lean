/- Lemmas under the proofs of this place: ChainPRead. No statement is proved here. -/
import Derived.Test.YtonnkibcnhjelaaGreatDoorBu31
import Derived.Test.YtonnkibcnhjelaaGreatDoorBu01
import Derived.Deep.RegionWith
set_option linter.unusedVariables false
set_option linter.unusedSimpArgs false
namespace Go.Proofs.YtonnkibcnhjelaaGreatDoor
open Go.RowKit
def Er (w : World) : Prop := (∃ a, w.cell? ⟨0, 0, none⟩ = some (.iface 200 (.pointer (some a)))) ∧ w.cell? ⟨1, 0, none⟩ = some (.iface 154 (.agg #[.pointer (some ⟨2, 94, none⟩)]))
theorem Er.lt {w : World} (h : Er w) : 0 < w.heap.size ∧ 1 < w.heap.size := by
  obtain ⟨⟨a, h1⟩, h2⟩ := h
  exact ⟨World.block_lt_of_cell? _ _ h1, World.block_lt_of_cell? _ _ h2⟩
theorem Er.below {w w' : World} (h : Er w) (hb : Below w.heap.size w w') : Er w' := by
  have hl := h.lt
  obtain ⟨⟨a, h1⟩, h2⟩ := h
  exact ⟨⟨a, (hb.cell (p := ⟨_, 0, none⟩) hl.1).trans h1⟩, (hb.cell (p := ⟨_, 0, none⟩) hl.2).trans h2⟩
def ErF (F : Nat → Prop) : Prop := ¬ F 0 ∧ ¬ F 1
theorem Er.foot {w : World} {F : Nat → Prop} (h : Er w) (hF : ∀ k, F k → w.heap.size ≤ k) : ErF F := ⟨fun hk => by have h1 := hF _ hk; have h2 := h.lt.1; omega, fun hk => by have h1 := hF _ hk; have h2 := h.lt.2; omega⟩
def PChR (d : Dk) (p : Pt) (F : Nat → Prop) (g : Nat) (w : World) (e : Ending) (w' : World) : Prop :=
  ∃ F' A c A2 c2 k, e = .returned (.tuple #[.slice A (chRead d p).1.length c, .slice A2 (chRead d p).2.1.length c2, .int .i64 (chRead d p).2.2]) ∧ k ≤ 2000 ∧ PDisk w' g F' { d with reads := d.reads + k } ∧ Turns w w' F F' ∧
    RB w' w'.heap.size A (chRead d p).1 ∧ (∀ ad, A = some ad → ¬ F' ad.block) ∧ RI w' w'.heap.size A2 (chRead d p).2.1 ∧ (∀ ad, A2 = some ad → ¬ F' ad.block)
theorem PChR.bad {d : Dk} {p : Pt} {F : Nat → Prop} {g k : Nat} {w w' : World} {e : Ending} {x : Int} (hR : chRead d p = ([], [], x)) (he : e = .returned (.tuple #[.slice none 0 0, .slice none 0 0, .int .i64 x])) (hk : k ≤ 2000) (hP : PDisk w' g F { d with reads := d.reads + k }) (ho : Only w w' g) : PChR d p F g w e w' := by
  unfold PChR
  rw [hR]
  exact ⟨F, none, 0, none, 0, k, he, hk, hP, Turns.grown ho (fun k e => by injection e with e; rw [← e]; exact hP.fg), RB.none_ _ _, (fun _ e => by cases e), (fun h => absurd h (by simp)), (fun _ e => by cases e)⟩
theorem chread_none (p : Pt) (w : World) :
    Calls Tryz.prog 16 #[.pointer none, ptV p] w fun e w' => (∃ A c A2 c2, e = .returned (.tuple #[.slice A 0 c, .slice A2 0 c2, .int .i64 8])) ∧ Below w.heap.size w w' := by
  obtain ⟨f, s, o⟩ := p
  show Calls Tryz.prog 16 #[.pointer none, .agg #[.int .i64 f, .int .i64 s, .int .i64 o]] w _
  have z0 := fun w' => Tryz.dNilIs w'
  go_enter Tryz.func16, Tryz.ntmps16
  go_wp2
  refine bodyPost_ret (v := .tuple #[.slice none 0 0, .slice none 0 0, .int .i64 8]) (by simp [results, Tryz.results16, go_sem]) rfl ⟨⟨_, _, _, _, rfl⟩, (Below.refl _ _).alloc (Nat.le_refl _) _⟩
set_option maxRecDepth 100000 in
set_option maxHeartbeats 8000000 in
theorem chread_any (p : Pt) {w : World} {g : Nat} {F : Nat → Prop} {d : Dk} (h : PDisk w g F d) (hl : d.load ≤ 90000) (hE : Er w) (hF : ErF F) :
    Calls Tryz.prog 16 #[.pointer (some ⟨g, 0, none⟩), ptV p] w (PChR d p F g w) := by
  have hlt := hE.lt
  obtain ⟨⟨a, hE1⟩, hE2⟩ := hE
  have hgw : g < w.heap.size := h.flt _ h.fg
  have hg1 : g ≠ 0 := fun e => hF.1 (e ▸ h.fg)
  have hg2 : g ≠ 1 := fun e => hF.2 (e ▸ h.fg)
  have z0 := fun w' => Tryz.dIsNil g w'
  have nf := fun w' => Tryz.notFalse w'
  have nt := fun w' => Tryz.notTrue w'
  have a24 := fun w' => Tryz.aggPart w'
  have s24 := fun w' => Tryz.sizePart w'
  obtain ⟨N, hN⟩ : ∃ N, N = d.safe.length := ⟨_, rfl⟩
  have HBk : Hid (∀ W, Below w.heap.size w W → Calls Tryz.prog 25 #[.pointer (some ⟨g, 0, none⟩)] W fun e w' => e = .returned (.int .i64 (N : Int)) ∧ W = w') := fun W hb => by rw [hN]; exact blocks_any (h.below hb)
  obtain ⟨f, s, o⟩ := p
  show Calls Tryz.prog 16 #[.pointer (some ⟨g, 0, none⟩), .agg #[.int .i64 f, .int .i64 s, .int .i64 o]] w _
  obtain ⟨WA, hWA⟩ : ∃ WA, WA = w.alloc (.cells #[.int .i64 f, .int .i64 s, .int .i64 o] 35) := ⟨_, rfl⟩
  have hbA : Below w.heap.size w WA := by rw [hWA]; exact (Below.refl _ _).alloc (Nat.le_refl _) _
  have hsA : w.heap.size < WA.heap.size := by rw [hWA]; simp
  have hblk : Blk WA w.heap.size 35 #[.int .i64 f, .int .i64 s, .int .i64 o] := by rw [hWA]; exact Blk.new w _ _
  have HWA := Lib.hid hWA
  have x0 : WA.cell? ⟨w.heap.size, 0, none⟩ = some (.int .i64 f) := by rw [hblk.cell]; rfl
  have x1 : WA.cell? ⟨w.heap.size, 1, none⟩ = some (.int .i64 s) := by rw [hblk.cell]; rfl
  have x2 : WA.cell? ⟨w.heap.size, 2, none⟩ = some (.int .i64 o) := by rw [hblk.cell]; rfl
  have HBl : Hid (∀ W, Below WA.heap.size WA W → W.cell? ⟨w.heap.size, 0, none⟩ = some (.int .i64 f) ∧ W.cell? ⟨w.heap.size, 1, none⟩ = some (.int .i64 s) ∧ W.cell? ⟨w.heap.size, 2, none⟩ = some (.int .i64 o)) := fun W hb => by
    have h0 := hblk.below hb hblk.lt
    exact ⟨by rw [h0.cell]; rfl, by rw [h0.cell]; rfl, by rw [h0.cell]; rfl⟩
  have HBA := Lib.hid hbA
  obtain ⟨bm, hbm⟩ : ∃ b, b = Pt.may ⟨f, s, o⟩ N := ⟨_, rfl⟩
  have HPt : Hid (∀ W, Calls Tryz.prog 22 #[.agg #[.int .i64 f, .int .i64 s, .int .i64 o], .int .i64 (N : Int)] W fun e w' => e = .returned (.bool bm) ∧ Below W.heap.size W w') := fun W => by rw [hbm]; exact chpart_any ⟨f, s, o⟩ N W
  have HD : Hid (PDisk WA g F d ∧ d.load ≤ 90000) := ⟨h.below hbA, hl⟩
  have HS : Hid (Only w WA g ∧ w.heap.size ≤ WA.heap.size ∧ (∀ k, F k → k < w.heap.size) ∧ F g) := ⟨only_below hbA g, Nat.le_of_lt hsA, h.flt, h.fg⟩
  have HE : Hid (∀ W, Only WA W g → W.cell? ⟨0, 0, none⟩ = some (.iface 200 (.pointer (some a))) ∧ W.cell? ⟨1, 0, none⟩ = some (.iface 154 (.agg #[.pointer (some ⟨2, 94, none⟩)]))) := fun W ho =>
    ⟨((World.cell?_of_block (ho.block _ (Nat.lt_trans hlt.1 hsA) (fun e => by injection e with e; exact hg1 (by first | exact e | exact e.symm)))).trans (hbA.cell (p := ⟨_, 0, none⟩) hlt.1)).trans hE1,
     ((World.cell?_of_block (ho.block _ (Nat.lt_trans hlt.2 hsA) (fun e => by injection e with e; exact hg2 (by first | exact e | exact e.symm)))).trans (hbA.cell (p := ⟨_, 0, none⟩) hlt.2)).trans hE2⟩
  have HG : Hid (¬ F 0) := hF.1
  have HBm : Hid (bm = Pt.may ⟨f, s, o⟩ N ∧ N = d.safe.length) := ⟨hbm, hN⟩
  clear h hl hE1 hE2 hlt hgw hg1 hg2 hN hWA hbA hsA hblk hbm hF
  cases bm with
  | false =>
    have HV : Hid (chRead d ⟨f, s, o⟩ = ([], [], 1)) := chRead_no (by rw [← HBm.out.2]; exact HBm.out.1.symm)
    go_enter Tryz.func16, Tryz.ntmps16
    go_upto_region 1 with (fail)
    rw [← HWA.out]
    go_upto_region 3 with (fail)
    go_region_with (first
      | (go_at_call 25; (with_reducible refine (HBk.out _ (by first | exact HBA.out | exact HBA.out.drew)).mono ?_); rintro e w9 ⟨rfl, rfl⟩)
      | (go_at_call 22; (with_reducible refine (HPt.out _).mono ?_); rintro e w2 ⟨rfl, hb2⟩; have c2 : Below WA.heap.size WA w2 := (by first | exact hb2 | exact below_drew hb2)))
    all_goals
      go_wp2
      refine bodyPost_ret (v := .tuple #[.slice none 0 0, .slice none 0 0, .int .i64 1]) (by simp [results, Tryz.results16, go_sem]) rfl ?_
      exact PChR.bad (k := 0) HV.out rfl (by omega) (HD.out.1.below c2) (only_trans HS.out.1 (only_below c2 g))
  | true =>
    have HMy : Hid (chRead d ⟨f, s, o⟩ = followR d ⟨f, s, o⟩) := chRead_may (by rw [← HBm.out.2]; exact HBm.out.1.symm)
    go_enter Tryz.func16, Tryz.ntmps16
    go_upto_region 1 with (fail)
    rw [← HWA.out]
    go_upto_region 3 with (fail)
    go_region_with (first
      | (go_at_call 25; (with_reducible refine (HBk.out _ (by first | exact HBA.out | exact HBA.out.drew)).mono ?_); rintro e w9 ⟨rfl, rfl⟩)
      | (go_at_call 22; (with_reducible refine (HPt.out _).mono ?_); rintro e w2 ⟨rfl, hb2⟩; have c2 : Below WA.heap.size WA w2 := (by first | exact hb2 | exact below_drew hb2)))
    all_goals
      obtain ⟨y0, y1, y2⟩ := HBl.out w2 c2
      have HO2 : Hid (Only WA w2 g) := only_below c2 g
      have HF0 : Hid (Calls Tryz.prog 49 #[.pointer (some ⟨g, 0, none⟩), .agg #[.int .i64 f, .int .i64 s, .int .i64 o]] w2 (PFollow d ⟨f, s, o⟩ a F g w2)) := pfollow_any ⟨f, s, o⟩ a (HD.out.1.below c2) HD.out.2 (by rw [← HBm.out.2]; exact HBm.out.1.symm) (HE.out w2 (only_below c2 g)).1 HG.out
      have hfe := followR_err d ⟨f, s, o⟩ (by have h1 := HBm.out.1.symm; rw [HBm.out.2, may_eq] at h1; exact (Bool.and_eq_true _ _ ▸ h1).1)
      clear x0 x1 x2 c2 hb2
      rcases hfe with h0 | hfr | hfr
      ·
        rcases hfr : followR d ⟨f, s, o⟩ with ⟨T, Ps, x⟩
        rw [hfr] at h0
        have hx0 : x = 0 := h0
        subst hx0
        obtain ⟨tl, htl⟩ : ∃ n, n = T.length := ⟨_, rfl⟩
        obtain ⟨pl, hpl⟩ : ∃ n, n = Ps.length := ⟨_, rfl⟩
        have HF : Hid (Calls Tryz.prog 49 #[.pointer (some ⟨g, 0, none⟩), .agg #[.int .i64 f, .int .i64 s, .int .i64 o]] w2 fun e w' => ∃ A c A2 c2, e = .returned (.tuple #[.slice A tl c, .slice A2 pl c2, .nilIface]) ∧ Hid (∃ k, k ≤ 2000 ∧ PDisk w' g F { d with reads := d.reads + k }) ∧ Only w2 w' g ∧ Hid (RB w' w'.heap.size A T ∧ (∀ ad, A = some ad → w2.heap.size ≤ ad.block) ∧ RI w' w'.heap.size A2 Ps ∧ (∀ ad, A2 = some ad → w2.heap.size ≤ ad.block))) := by
          refine HF0.out.mono fun e w' hh => ?_
          obtain ⟨A, c, A2, c2, k, he, hk, hp, ho, h1, h2, h3, h4⟩ := hh
          rw [hfr] at he h1 h3
          simp only [← htl, ← hpl] at he
          exact ⟨A, c, A2, c2, he, ⟨k, hk, hp⟩, ho, h1, h2, h3, h4⟩
        have HV : Hid (chRead d ⟨f, s, o⟩ = (T, Ps, 0) ∧ tl = T.length ∧ pl = Ps.length) := ⟨by rw [HMy.out, hfr], htl, hpl⟩
        clear HF0 hfr h0 htl hpl
        go_wp2_with (first
          | (go_at_call 49; (with_reducible refine HF.out.mono ?_); rintro e w3 ⟨A3, c3, A4, c4, rfl, p3, o3, r3⟩; have o4 := only_alloc (only_trans HO2.out o3) (.cells #[.int .i64 0] 97); obtain ⟨q0, q1⟩ := HE.out _ o4)
          | (go_at_call 50; (with_reducible refine (is_nil _ _).mono ?_); rintro e w5 ⟨rfl, rfl⟩)
          | (go_at_call 51; (with_reducible refine (as_nil _ _).mono ?_); rintro e w5 ⟨rfl, rfl⟩))
        refine bodyPost_ret (v := .tuple #[.slice A3 tl c3, .slice A4 pl c4, .int .i64 0]) (by simp [results, Tryz.results16, go_sem]) rfl ?_
        obtain ⟨k, hk, hp⟩ := p3.out
        obtain ⟨r1, r2, r3', r4⟩ := r3.out
        have hb4 : Below w3.heap.size w3 (w3.alloc (.cells #[.int .i64 0] 97)) := (Below.refl _ _).alloc (Nat.le_refl _) _
        have hsz : w.heap.size ≤ w2.heap.size := Nat.le_trans HS.out.2.1 HO2.out.size
        unfold PChR
        rw [HV.out.1]
        refine ⟨F, A3, c3, A4, c4, k, by rw [HV.out.2.1, HV.out.2.2], hk, hp.below hb4, Turns.grown (only_trans HS.out.1 o4) (fun k e => by injection e with e; rw [← e]; exact HS.out.2.2.2), rb_up7 r1 hb4, fun ad e hk => ?_, ri_up r3' hb4, fun ad e hk => ?_⟩
        · have h1 := r2 ad e; have h2 := HS.out.2.2.1 _ hk; omega
        · have h1 := r4 ad e; have h2 := HS.out.2.2.1 _ hk; omega
      ·
        have HF : Hid (Calls Tryz.prog 49 #[.pointer (some ⟨g, 0, none⟩), .agg #[.int .i64 f, .int .i64 s, .int .i64 o]] w2 fun e w' => ∃ A c A2 c2, e = .returned (.tuple #[.slice A 0 c, .slice A2 0 c2, .iface 97 (.int .i64 9)]) ∧ Hid (∃ k, k ≤ 2000 ∧ PDisk w' g F { d with reads := d.reads + k }) ∧ Only w2 w' g) := by
          refine HF0.out.mono fun e w' hh => ?_
          obtain ⟨A, c, A2, c2, k, he, hk, hp, ho, _⟩ := hh
          rw [hfr] at he
          exact ⟨A, c, A2, c2, he, ⟨k, hk, hp⟩, ho⟩
        have HV : Hid (chRead d ⟨f, s, o⟩ = ([], [], 9)) := by show _ = _; rw [HMy.out, hfr]
        clear HF0 hfr
        go_wp2_with (first
          | (go_at_call 49; (with_reducible refine HF.out.mono ?_); rintro e w3 ⟨A3, c3, A4, c4, rfl, p3, o3⟩; have o4 := only_alloc (only_trans HO2.out o3) (.cells #[.int .i64 0] 97); obtain ⟨q0, q1⟩ := HE.out _ o4; have t0 : (w3.alloc (.cells #[.int .i64 0] 97)).cell? ⟨w3.heap.size, 0, none⟩ = some (.int .i64 0) := (by simp); have f0 : (w3.alloc (.cells #[.int .i64 0] 97)).frozen? ⟨w3.heap.size, 0, none⟩ = false := (by simp))
          | (go_at_call 50; (with_reducible refine (is_ref _ _ _).mono ?_); rintro e w5 ⟨rfl, rfl⟩)
          | (go_at_call 51; (with_reducible refine (as_hit 9 _ _ _ q1 t0 f0).mono ?_); rintro e w6 ⟨rfl, hw6⟩; have k6 := ((((((Blk.new w3 97 #[.int .i64 0]).alloc (.cells #[.pointer (some ⟨w3.heap.size, 0, none⟩)] 100)).alloc (.cells #[.pointer (some ⟨2, 100, none⟩), .pointer (some ⟨(w3.alloc (.cells #[.int .i64 0] 97)).heap.size, 0, none⟩), .int .u64 150] 132)).alloc (.cells #[.pointer (some ⟨2, 100, none⟩), .pointer (some ⟨(w3.alloc (.cells #[.int .i64 0] 97)).heap.size, 0, none⟩), .int .u64 150] 132)).alloc (.cells #[.int .i64 9] 97)).set_ 0 (.int .i64 9)); rw [← hw6] at k6; have l6 : w6.cell? ⟨w3.heap.size, 0, none⟩ = some (.int .i64 9) := (by rw [k6.cell]; rfl); have HW6 := Lib.hid hw6; clear hw6 k6))
        go_region
        go_wp2
        refine bodyPost_ret (v := .tuple #[.slice none 0 0, .slice none 0 0, .int .i64 9]) (by simp [results, Tryz.results16, go_sem]) rfl ?_
        obtain ⟨k, hk, hp⟩ := p3.out
        have hsz : w.heap.size ≤ w3.heap.size := Nat.le_trans HS.out.2.1 (only_trans HO2.out o3).size
        refine PChR.bad HV.out rfl hk ?_ ?_
        · refine PDisk.below ?_ (Below.refl _ _).drew
          rw [HW6.out]
          exact ((((((hp.below ((Below.refl _ _).alloc (Nat.le_refl _) _)).below ((Below.refl _ _).alloc (Nat.le_refl _) _)).below ((Below.refl _ _).alloc (Nat.le_refl _) _)).below ((Below.refl _ _).alloc (Nat.le_refl _) _)).below ((Below.refl _ _).alloc (Nat.le_refl _) _))).turns (Turns.set_ (F := fun k => k = w3.heap.size) rfl 0 (.int .i64 9)) (fun k hk e => by have := HS.out.2.2.1 k hk; omega)
        · refine only_trans ?_ (only_below (Below.refl _ _).drew g)
          rw [HW6.out]
          exact only_new (only_trans HS.out.1 (only_alloc (only_alloc (only_alloc (only_alloc o4 _) _) _) _)) hsz _
      ·
        have HF : Hid (Calls Tryz.prog 49 #[.pointer (some ⟨g, 0, none⟩), .agg #[.int .i64 f, .int .i64 s, .int .i64 o]] w2 fun e w' => ∃ A c A2 c2, e = .returned (.tuple #[.slice A 0 c, .slice A2 0 c2, .iface 200 (.pointer (some a))]) ∧ Hid (∃ k, k ≤ 2000 ∧ PDisk w' g F { d with reads := d.reads + k }) ∧ Only w2 w' g) := by
          refine HF0.out.mono fun e w' hh => ?_
          obtain ⟨A, c, A2, c2, k, he, hk, hp, ho, _⟩ := hh
          rw [hfr] at he
          exact ⟨A, c, A2, c2, he, ⟨k, hk, hp⟩, ho⟩
        have HV : Hid (chRead d ⟨f, s, o⟩ = ([], [], 13)) := by show _ = _; rw [HMy.out, hfr]
        clear HF0 hfr
        go_wp2_with (first
          | (go_at_call 49; (with_reducible refine HF.out.mono ?_); rintro e w3 ⟨A3, c3, A4, c4, rfl, p3, o3⟩; have o4 := only_alloc (only_trans HO2.out o3) (.cells #[.int .i64 0] 97); obtain ⟨q0, q1⟩ := HE.out _ o4; have t0 : (w3.alloc (.cells #[.int .i64 0] 97)).cell? ⟨w3.heap.size, 0, none⟩ = some (.int .i64 0) := (by simp); have f0 : (w3.alloc (.cells #[.int .i64 0] 97)).frozen? ⟨w3.heap.size, 0, none⟩ = false := (by simp))
          | (go_at_call 50; (with_reducible refine (is_same _ _).mono ?_); rintro e w5 ⟨rfl, rfl⟩))
        refine bodyPost_ret (v := .tuple #[.slice none 0 0, .slice none 0 0, .int .i64 13]) (by simp [results, Tryz.results16, go_sem]) rfl ?_
        obtain ⟨k, hk, hp⟩ := p3.out
        exact PChR.bad HV.out rfl hk (hp.below ((Below.refl _ _).alloc (Nat.le_refl _) _)) (only_trans HS.out.1 o4)
end Go.Proofs.YtonnkibcnhjelaaGreatDoor
