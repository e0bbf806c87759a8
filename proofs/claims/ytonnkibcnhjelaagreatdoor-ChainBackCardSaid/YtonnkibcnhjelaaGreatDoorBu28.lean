/- Lemmas under the proofs of this place: ChainPLink. No statement is proved here. -/
import Derived.Test.YtonnkibcnhjelaaGreatDoorBu24
import Derived.Test.YtonnkibcnhjelaaGreatDoorBu20
import Derived.Test.YtonnkibcnhjelaaGreatDoorBu25
import Derived.Deep.CutRange
import Derived.Deep.RegionHeld
set_option linter.unusedVariables false
set_option linter.unusedSimpArgs false
namespace Go.Proofs.YtonnkibcnhjelaaGreatDoor
open Go.RowKit
def linkC (d : Dk) (o z : Int) (i : Nat) : Ce × Int :=
  if isBlk z d.safe.length = false then (.zero, 13) else if d.off then (.zero, 9) else
  if (getC (d.now z.toNat)).2 ≠ 0 ∨ (getC (d.now z.toNat)).1.owner ≠ o ∨ (getC (d.now z.toNat)).1.number ≠ (i : Int) then (.zero, 13) else ((getC (d.now z.toNat)).1, 0)
def linkN (d : Dk) (z : Int) : Nat := if isBlk z d.safe.length = false then 0 else if d.off then 0 else 1
def errV (a : Addr) (e : Int) : Value := if e = 0 then .nilIface else if e = 13 then .iface 200 (.pointer (some a)) else .iface 97 (.int .i64 e)
def PLink (d : Dk) (o z : Int) (i : Nat) (a : Addr) (F : Nat → Prop) (g : Nat) (w : World) (e : Ending) (w' : World) : Prop :=
  ∃ A c, e = .returned (.tuple #[ceV (linkC d o z i).1 A c, errV a (linkC d o z i).2]) ∧ RB w' w'.heap.size A (linkC d o z i).1.data ∧ PDisk w' g F { d with reads := d.reads + linkN d z } ∧ Only w w' g ∧ (∀ ad, A = some ad → w.heap.size ≤ ad.block)
theorem only_four_ {a w : World} {g gs : Nat} (h : Only a w g) (hg : a.heap.size ≤ gs) (v0 v1 v2 v3 : Value) : Only a ((((w.setCell ⟨gs, 0, none⟩ v0).setCell ⟨gs, 1, none⟩ v1).setCell ⟨gs, 2, none⟩ v2).setCell ⟨gs, 3, none⟩ v3) g :=
  only_new (only_new (only_new (only_new h hg v0) hg v1) hg v2) hg v3
theorem turns_four_ (W : World) (g : Nat) (v0 v1 v2 v3 : Value) : Turns W ((((W.setCell ⟨g, 0, none⟩ v0).setCell ⟨g, 1, none⟩ v1).setCell ⟨g, 2, none⟩ v2).setCell ⟨g, 3, none⟩ v3) (fun k => k = g) (fun k => k = g) :=
  (((Turns.set_ (F := fun k => k = g) rfl 0 v0).trans (Turns.set_ (F := fun k => k = g) rfl 1 v1)).trans (Turns.set_ (F := fun k => k = g) rfl 2 v2)).trans (Turns.set_ (F := fun k => k = g) rfl 3 v3)
theorem isBlk_there {d : Dk} {z : Int} (h : isBlk z d.safe.length = true) : d.there z = true := by
  unfold isBlk at h
  unfold Dk.there
  simp only [Bool.and_eq_true, decide_eq_true_eq] at h ⊢
  omega
theorem PLink.bad {o z : Int} {i : Nat} {a : Addr} {w w3 : World} {g gs : Nat} {F : Nat → Prop} {d : Dk} {e : Ending} {x : Int} (hV : linkC d o z i = (.zero, x)) (he : e = .returned (.tuple #[.agg #[.int .i64 0, .int .i64 0, .int .i64 0, .slice none 0 0], errV a x])) (hP : PDisk w3 g F { d with reads := d.reads + linkN d z }) (ho : Only w w3 g) (hg : w.heap.size ≤ gs) (hF : ¬ F gs) (v0 v1 v2 v3 : Value) :
    PLink d o z i a F g w e ((((w3.setCell ⟨gs, 0, none⟩ v0).setCell ⟨gs, 1, none⟩ v1).setCell ⟨gs, 2, none⟩ v2).setCell ⟨gs, 3, none⟩ v3) := by
  unfold PLink
  rw [hV]
  exact ⟨none, 0, he, RB.none_ _ _, hP.turns (turns_four_ w3 gs v0 v1 v2 v3) (fun k hk e => hF (e ▸ hk)), only_four_ ho hg _ _ _ _, fun _ e => by cases e⟩
set_option maxRecDepth 100000 in
set_option maxHeartbeats 8000000 in
theorem plink_any (o z : Int) (i : Nat) (a : Addr) {w : World} {g : Nat} {F : Nat → Prop} {d : Dk} (h : PDisk w g F d) (hl : d.load ≤ 100000) (hE : w.cell? ⟨0, 0, none⟩ = some (.iface 200 (.pointer (some a)))) (hg : ¬ F 0) :
    Calls Tryz.prog 78 #[.pointer (some ⟨g, 0, none⟩), .int .i64 o, .int .i64 z, .int .i64 (i : Int)] w (PLink d o z i a F g w) := by
  have hgg : g ≠ 0 := fun e => hg (e ▸ h.fg)
  have hlt : 0 < w.heap.size := World.block_lt_of_cell? _ _ hE
  have hgw : g < w.heap.size := h.flt _ h.fg
  obtain ⟨WA, hWA⟩ : ∃ WA, WA = w.alloc (.cells #[.int .i64 0, .int .i64 0, .int .i64 0, .slice none 0 0] 64) := ⟨_, rfl⟩
  have hbA : Below w.heap.size w WA := by rw [hWA]; exact (Below.refl _ _).alloc (Nat.le_refl _) _
  have HWA := Lib.hid hWA
  have hsA : w.heap.size < WA.heap.size := by rw [hWA]; simp
  have hblk : Blk WA w.heap.size 64 #[.int .i64 0, .int .i64 0, .int .i64 0, .slice none 0 0] := by rw [hWA]; exact Blk.new w _ _
  have HC : Hid (∀ W, Only WA W g → (ResC W w.heap.size ∧ Blk W w.heap.size 64 #[.int .i64 0, .int .i64 0, .int .i64 0, .slice none 0 0]) ∧ W.cell? ⟨0, 0, none⟩ = some (.iface 200 (.pointer (some a))) ∧ (∀ v, (W.setCell ⟨w.heap.size, 0, none⟩ v).cell? ⟨0, 0, none⟩ = some (.iface 200 (.pointer (some a)))) ∧ Only w W g) := fun W ho => by
    have h0 := hblk.only ho (by omega)
    have e0 : W.cell? ⟨0, 0, none⟩ = some (.iface 200 (.pointer (some a))) := ((World.cell?_of_block (ho.block _ (Nat.lt_trans hlt hsA) (fun e => by injection e with e; exact hgg (by first | exact e | exact e.symm)))).trans (hbA.cell (p := ⟨_, 0, none⟩) hlt)).trans hE
    refine ⟨⟨⟨⟨by rw [h0.cell]; rfl, by rw [h0.cell]; rfl, by rw [h0.cell]; rfl, by rw [h0.cell]; rfl⟩, h0.frozen 0, h0.frozen 1, h0.frozen 2, h0.frozen 3⟩, h0⟩, e0, fun v => ?_, only_trans (only_below hbA g) ho⟩
    exact (World.cell?_setCell_far W ⟨w.heap.size, 0, none⟩ ⟨0, 0, none⟩ v (fun e => Nat.lt_irrefl _ (Nat.lt_of_lt_of_eq hlt e))).trans e0
  have nb := fun w' => Tryz.cellBuild0 w'
  have a24 := fun w' => Tryz.aggCell w'
  have s24 := fun w' => Tryz.sizeCell w'
  have nf := fun w' => Tryz.notFalse w'
  have nt := fun w' => Tryz.notTrue w'
  obtain ⟨N, hN⟩ : ∃ N, N = d.safe.length := ⟨_, rfl⟩
  have HBk : Hid (∀ W, Below w.heap.size w W → Calls Tryz.prog 25 #[.pointer (some ⟨g, 0, none⟩)] W fun e w' => e = .returned (.int .i64 (N : Int)) ∧ W = w') := fun W hb => by rw [hN]; exact blocks_any (h.below hb)
  have hDA : PDisk WA g F d := h.below hbA
  have HS : Hid (Below w.heap.size w WA ∧ ¬ F w.heap.size ∧ Only WA WA g) := ⟨hbA, fun hk => Nat.lt_irrefl _ (h.flt _ hk), only_refl _ _⟩
  cases hi : isBlk z N with
  | false =>
    have HI : Hid (∀ W, Calls Tryz.prog 53 #[.int .i64 z, .int .i64 (N : Int)] W fun e w' => e = .returned (.bool false) ∧ W = w') := fun W => pisblock_gives z N false hi W
    have HV : Hid (linkC d o z i = (.zero, 13) ∧ linkN d z = 0) := by
      rw [hN] at hi
      exact ⟨by unfold linkC; rw [if_pos hi], by unfold linkN; rw [if_pos hi]⟩
    have HD := Lib.hid hDA
    obtain ⟨⟨⟨⟨p0, p1, p2, p3⟩, f0, f1, f2, f3⟩, _⟩, eA, eS, oA⟩ := HC.out WA HS.out.2.2
    have HOA := Lib.hid oA
    clear h hl hE hg hgg hlt hgw hWA hbA hsA hblk hN hi hDA oA
    go_enter Tryz.func78, Tryz.ntmps78
    go_upto_region 1 with (fail)
    rw [← HWA.out]
    go_wp2_with (first
      | (go_at_call 25; (with_reducible refine (HBk.out _ HS.out.1).mono ?_); rintro e w9 ⟨rfl, rfl⟩)
      | (go_at_call 53; (with_reducible refine (HI.out _).mono ?_); rintro e w9 ⟨rfl, rfl⟩))
    go_region
    go_wp2
    refine bodyPost_ret (v := .tuple #[.agg #[.int .i64 0, .int .i64 0, .int .i64 0, .slice none 0 0], .iface 200 (.pointer (some a))]) (by simp [results, Tryz.results78, go_sem, p0, p1, p2, p3]) rfl ?_
    exact PLink.bad (w3 := WA.drew) HV.out.1 rfl (by rw [HV.out.2]; exact PDisk.below HD.out (Below.refl _ _).drew) (only_trans HOA.out (only_below (Below.refl _ _).drew g)) (Nat.le_refl _) HS.out.2.1 _ _ _ _
  | true =>
    have HI : Hid (∀ W, Calls Tryz.prog 53 #[.int .i64 z, .int .i64 (N : Int)] W fun e w' => e = .returned (.bool true) ∧ W = w') := fun W => pisblock_gives z N true hi W
    have hi2 : isBlk z d.safe.length = true := by rw [← hN]; exact hi
    have hnb : ¬ (isBlk z d.safe.length = false) := by rw [hi2]; decide
    have hth := isBlk_there hi2
    cases hoff : d.off with
    | true =>
      have HV : Hid (linkC d o z i = (.zero, 9) ∧ linkN d z = 0) := ⟨by unfold linkC; rw [if_neg hnb, if_pos hoff], by unfold linkN; rw [if_neg hnb, if_pos hoff]⟩
      have HR : Hid (Calls Tryz.prog 32 #[.pointer (some ⟨g, 0, none⟩), .int .i64 z] WA fun e w' => (∃ A c, e = .returned (.tuple #[.slice A 0 c, .int .i64 9])) ∧ Hid (PDisk w' g F d) ∧ Hid (Only WA w' g)) := by
        refine (read_only hDA z hl).mono fun e w' hh => ?_
        obtain ⟨⟨A, c, he, _, hp, _⟩, ho⟩ := hh
        have e1 : d.read z = (d, [], 9) := by unfold Dk.read; rw [if_pos hoff]
        rw [e1] at he hp
        exact ⟨⟨A, c, he⟩, hp, ho⟩
      clear h hl hE hg hgg hlt hgw hWA hbA hsA hblk hN hi hi2 hnb hth hoff hDA
      go_enter Tryz.func78, Tryz.ntmps78
      go_upto_region 1 with (fail)
      rw [← HWA.out]
      go_wp2_with (first
        | (go_at_call 25; (with_reducible refine (HBk.out _ HS.out.1).mono ?_); rintro e w9 ⟨rfl, rfl⟩)
        | (go_at_call 53; (with_reducible refine (HI.out _).mono ?_); rintro e w9 ⟨rfl, rfl⟩)
        | (go_at_call 32; (with_reducible refine HR.out.mono ?_); rintro e w3 ⟨⟨A3, c3, rfl⟩, r3, o3⟩; obtain ⟨⟨⟨⟨p0, p1, p2, p3⟩, f0, f1, f2, f3⟩, _⟩, _, _, oA⟩ := HC.out _ o3.out))
      refine bodyPost_ret (v := .tuple #[.agg #[.int .i64 0, .int .i64 0, .int .i64 0, .slice none 0 0], .iface 97 (.int .i64 9)]) (by simp [results, Tryz.results78, go_sem, p0, p1, p2, p3]) rfl ?_
      exact PLink.bad (w3 := w3) HV.out.1 rfl (by rw [HV.out.2]; exact r3.out) oA (Nat.le_refl _) HS.out.2.1 _ _ _ _
    | false =>
      obtain ⟨L, hL⟩ : ∃ L, L = d.now z.toNat := ⟨_, rfl⟩
      have h256 : L.length = 256 := by
        obtain ⟨k, e1, e2⟩ := there_nat hth
        rw [hL, e1, Int.toNat_natCast]
        exact Dk.fit_now h.good.fit e2
      have hN1 : linkN d z = 1 := by unfold linkN; rw [if_neg hnb, if_neg (by rw [hoff]; decide)]
      have hVb : (getC L).2 ≠ 0 ∨ (getC L).1.owner ≠ o ∨ (getC L).1.number ≠ (i : Int) → linkC d o z i = (.zero, 13) := fun hh => by
        unfold linkC; rw [if_neg hnb, if_neg (by rw [hoff]; decide), ← hL, if_pos hh]
      have hVg : ¬ ((getC L).2 ≠ 0 ∨ (getC L).1.owner ≠ o ∨ (getC L).1.number ≠ (i : Int)) → linkC d o z i = ((getC L).1, 0) := fun hh => by
        unfold linkC; rw [if_neg hnb, if_neg (by rw [hoff]; decide), ← hL, if_neg hh]
      have HR : Hid (Calls Tryz.prog 32 #[.pointer (some ⟨g, 0, none⟩), .int .i64 z] WA fun e w' => ∃ A c, e = .returned (.tuple #[.slice A 256 c, .int .i64 0]) ∧ Hid (RB w' w'.heap.size A L ∧ 256 ≤ c ∧ c ≤ 9223372036854775807) ∧ Hid (PDisk w' g F { d with reads := d.reads + linkN d z }) ∧ Hid (Only WA w' g)) := by
        refine (read_only hDA z hl).mono fun e w' hh => ?_
        obtain ⟨⟨A, c, he, hw, hp, _⟩, ho⟩ := hh
        have e1 : d.read z = ({ d with reads := d.reads + 1 }, L, 0) := by unfold Dk.read; rw [if_neg (by rw [hoff]; decide), if_neg (by rw [hth]; decide), hL]
        rw [e1] at he hp hw
        have hcap := own_cap7 hw
        refine ⟨A, c, by rw [he, h256], ⟨own_rb hw, ?_, hcap.2.2⟩, by rw [hN1]; exact hp, ho⟩
        have h7 : L.length ≤ c := hcap.2.1
        omega
      have HG : Hid (∀ W A c, (RB W W.heap.size A L ∧ 256 ≤ c ∧ c ≤ 9223372036854775807) → Calls Tryz.prog 96 #[.slice A 256 c] W (GivesCn (getC L) W)) := fun W A c hh => by
        have := cget_lies L A c W hh.1 (by omega) hh.2.2 (by omega)
        rwa [h256] at this
      rcases hget : getC L with ⟨⟨ow, nu, nx, D⟩, x⟩
      rw [hget] at HG hVb hVg
      obtain ⟨m, hm⟩ : ∃ m, m = D.length := ⟨_, rfl⟩
      have HG2 : Hid (∀ W A c, (RB W W.heap.size A L ∧ 256 ≤ c ∧ c ≤ 9223372036854775807) → Calls Tryz.prog 96 #[.slice A 256 c] W fun e w' => ∃ A c, e = .returned (.tuple #[.agg #[.int .i64 ow, .int .i64 nu, .int .i64 nx, .slice A m c], .int .i64 x]) ∧ Hid (RB w' w'.heap.size A D) ∧ Below W.heap.size W w' ∧ Hid (∀ ad, A = some ad → W.heap.size ≤ ad.block)) := fun W A c hh => by
        refine (HG.out W A c hh).mono fun e w' h2 => ?_
        obtain ⟨A', c', he, hr, hb, hn⟩ := h2
        unfold ceV at he
        simp only [← hm] at he
        exact ⟨A', c', he, hr, hb, hn⟩
      have HM := Lib.hid hm
      have hVb' : x ≠ 0 ∨ ow ≠ o ∨ nu ≠ (i : Int) → linkC d o z i = (.zero, 13) := hVb
      have hVg' : ¬ (x ≠ 0 ∨ ow ≠ o ∨ nu ≠ (i : Int)) → linkC d o z i = (⟨ow, nu, nx, D⟩, 0) := fun hh => by
        have h1 := hVg hh
        exact h1
      have HVb := Lib.hid hVb'
      have HVg := Lib.hid hVg'
      clear h hl hE hg hgg hlt hgw hWA hbA hsA hblk hN hi hi2 hnb hth hoff hDA hL h256 hN1 hVb hVg HG hget hm hVb' hVg'
      by_cases hx : x = 0
      · subst hx
        by_cases how : ow = o
        · by_cases hnu : nu = (i : Int)
          · have q0 : (ow != o) = false := by simpa using how
            have q1 : (nu != (i : Int)) = false := by simpa using hnu
            have HV : Hid (linkC d o z i = (⟨ow, nu, nx, D⟩, 0)) := HVg.out (fun hh => by rcases hh with h1 | h1 | h1; exact h1 rfl; exact h1 how; exact h1 hnu)
            clear how hnu
            go_enter Tryz.func78, Tryz.ntmps78
            go_upto_region 1 with (fail)
            rw [← HWA.out]
            go_wp2_with (first
              | (go_at_call 25; (with_reducible refine (HBk.out _ HS.out.1).mono ?_); rintro e w9 ⟨rfl, rfl⟩)
              | (go_at_call 53; (with_reducible refine (HI.out _).mono ?_); rintro e w9 ⟨rfl, rfl⟩)
              | (go_at_call 32; (with_reducible refine HR.out.mono ?_); rintro e w3 ⟨A3, c3, rfl, r3, p3', o3⟩)
              | (go_at_call 96; (with_reducible refine (HG2.out _ _ _ r3.out).mono ?_); rintro e w4 ⟨A4, c4, rfl, r4, b4, n4⟩; have b5 : Below w3.heap.size w3 (w4.alloc (.cells #[.int .i64 ow, .int .i64 nu, .int .i64 nx, .slice A4 m c4] 64)) := b4.alloc b4.size _; have o5 := only_trans o3.out (only_below b5 g); obtain ⟨⟨⟨⟨p0, p1, p2, p3⟩, f0, f1, f2, f3⟩, k5⟩, _, _, oA⟩ := HC.out _ o5))
            refine bodyPost_ret (v := .tuple #[.agg #[.int .i64 ow, .int .i64 nu, .int .i64 nx, .slice A4 m c4], .nilIface]) (by simp [results, Tryz.results78, go_sem, p0, p1, p2, p3]) rfl ?_
            unfold PLink
            rw [HV.out]
            refine ⟨A4, c4, ?_, ?_, (p3'.out.below b5).turns (turns_four_ _ _ _ _ _ _) (fun k hk e => HS.out.2.1 (e ▸ hk)), only_four_ oA (Nat.le_refl _) _ _ _ _, fun ad e => Nat.le_trans (Nat.le_trans HS.out.1.size o3.out.size) (n4.out ad e)⟩
            · rw [HM.out]; rfl
            · exact rb_four (rb_up7 r4.out ((Below.refl _ _).alloc (Nat.le_refl _) _)) k5 (no8_cell _ _ _ _ _ _) _ _ _ _
          · have q0 : (ow != o) = false := by simpa using how
            have q1 : (nu != (i : Int)) = true := by simpa using hnu
            have HV : Hid (linkC d o z i = (.zero, 13)) := HVb.out (.inr (.inr hnu))
            clear how hnu
            go_enter Tryz.func78, Tryz.ntmps78
            go_upto_region 1 with (fail)
            rw [← HWA.out]
            go_wp2_with (first
              | (go_at_call 25; (with_reducible refine (HBk.out _ HS.out.1).mono ?_); rintro e w9 ⟨rfl, rfl⟩)
              | (go_at_call 53; (with_reducible refine (HI.out _).mono ?_); rintro e w9 ⟨rfl, rfl⟩)
              | (go_at_call 32; (with_reducible refine HR.out.mono ?_); rintro e w3 ⟨A3, c3, rfl, r3, p3', o3⟩)
              | (go_at_call 96; (with_reducible refine (HG2.out _ _ _ r3.out).mono ?_); rintro e w4 ⟨A4, c4, rfl, r4, b4, n4⟩; have b5 : Below w3.heap.size w3 (w4.alloc (.cells #[.int .i64 ow, .int .i64 nu, .int .i64 nx, .slice A4 m c4] 64)) := b4.alloc b4.size _; have o5 := only_trans o3.out (only_below b5 g)))
            obtain ⟨W5, hW5⟩ : ∃ W, W = w4.alloc (.cells #[.int .i64 ow, .int .i64 nu, .int .i64 nx, .slice A4 m c4] 64) := ⟨_, rfl⟩
            rw [← hW5] at b5 o5 ⊢
            clear hW5
            obtain ⟨⟨⟨⟨p0, p1, p2, p3⟩, f0, f1, f2, f3⟩, k5⟩, _, eS, oA⟩ := HC.out _ o5
            have HOA := Lib.hid oA
            have HB5 := Lib.hid b5
            clear oA b5 o5 k5
            go_region
            go_wp2
            refine bodyPost_ret (v := .tuple #[.agg #[.int .i64 0, .int .i64 0, .int .i64 0, .slice none 0 0], .iface 200 (.pointer (some a))]) (by simp [results, Tryz.results78, go_sem, p0, p1, p2, p3]) rfl ?_
            exact PLink.bad (w3 := W5.drew) HV.out rfl (p3'.out.below HB5.out.drew) (only_trans HOA.out (only_below (Below.refl _ _).drew g)) (Nat.le_refl _) HS.out.2.1 _ _ _ _
        · have q0 : (ow != o) = true := by simpa using how
          have HV : Hid (linkC d o z i = (.zero, 13)) := HVb.out (.inr (.inl how))
          clear how
          go_enter Tryz.func78, Tryz.ntmps78
          go_upto_region 1 with (fail)
          rw [← HWA.out]
          go_wp2_with (first
            | (go_at_call 25; (with_reducible refine (HBk.out _ HS.out.1).mono ?_); rintro e w9 ⟨rfl, rfl⟩)
            | (go_at_call 53; (with_reducible refine (HI.out _).mono ?_); rintro e w9 ⟨rfl, rfl⟩)
            | (go_at_call 32; (with_reducible refine HR.out.mono ?_); rintro e w3 ⟨A3, c3, rfl, r3, p3', o3⟩)
            | (go_at_call 96; (with_reducible refine (HG2.out _ _ _ r3.out).mono ?_); rintro e w4 ⟨A4, c4, rfl, r4, b4, n4⟩; have b5 : Below w3.heap.size w3 (w4.alloc (.cells #[.int .i64 ow, .int .i64 nu, .int .i64 nx, .slice A4 m c4] 64)) := b4.alloc b4.size _; have o5 := only_trans o3.out (only_below b5 g)))
          obtain ⟨W5, hW5⟩ : ∃ W, W = w4.alloc (.cells #[.int .i64 ow, .int .i64 nu, .int .i64 nx, .slice A4 m c4] 64) := ⟨_, rfl⟩
          rw [← hW5] at b5 o5 ⊢
          clear hW5
          obtain ⟨⟨⟨⟨p0, p1, p2, p3⟩, f0, f1, f2, f3⟩, k5⟩, _, eS, oA⟩ := HC.out _ o5
          have HOA := Lib.hid oA
          have HB5 := Lib.hid b5
          clear oA b5 o5 k5
          go_region
          go_wp2
          refine bodyPost_ret (v := .tuple #[.agg #[.int .i64 0, .int .i64 0, .int .i64 0, .slice none 0 0], .iface 200 (.pointer (some a))]) (by simp [results, Tryz.results78, go_sem, p0, p1, p2, p3]) rfl ?_
          exact PLink.bad (w3 := W5.drew) HV.out rfl (p3'.out.below HB5.out.drew) (only_trans HOA.out (only_below (Below.refl _ _).drew g)) (Nat.le_refl _) HS.out.2.1 _ _ _ _
      · have q0 : (x != 0) = true := by simpa using hx
        have HV : Hid (linkC d o z i = (.zero, 13)) := HVb.out (.inl hx)
        clear hx
        go_enter Tryz.func78, Tryz.ntmps78
        go_upto_region 1 with (fail)
        rw [← HWA.out]
        go_wp2_with (first
          | (go_at_call 25; (with_reducible refine (HBk.out _ HS.out.1).mono ?_); rintro e w9 ⟨rfl, rfl⟩)
          | (go_at_call 53; (with_reducible refine (HI.out _).mono ?_); rintro e w9 ⟨rfl, rfl⟩)
          | (go_at_call 32; (with_reducible refine HR.out.mono ?_); rintro e w3 ⟨A3, c3, rfl, r3, p3', o3⟩)
          | (go_at_call 96; (with_reducible refine (HG2.out _ _ _ r3.out).mono ?_); rintro e w4 ⟨A4, c4, rfl, r4, b4, n4⟩; have b5 : Below w3.heap.size w3 (w4.alloc (.cells #[.int .i64 ow, .int .i64 nu, .int .i64 nx, .slice A4 m c4] 64)) := b4.alloc b4.size _; have o5 := only_trans o3.out (only_below b5 g)))
        obtain ⟨W5, hW5⟩ : ∃ W, W = w4.alloc (.cells #[.int .i64 ow, .int .i64 nu, .int .i64 nx, .slice A4 m c4] 64) := ⟨_, rfl⟩
        rw [← hW5] at b5 o5 ⊢
        clear hW5
        obtain ⟨⟨⟨⟨p0, p1, p2, p3⟩, f0, f1, f2, f3⟩, k5⟩, _, eS, oA⟩ := HC.out _ o5
        have HOA := Lib.hid oA
        have HB5 := Lib.hid b5
        clear oA b5 o5 k5
        go_region
        go_wp2
        refine bodyPost_ret (v := .tuple #[.agg #[.int .i64 0, .int .i64 0, .int .i64 0, .slice none 0 0], .iface 200 (.pointer (some a))]) (by simp [results, Tryz.results78, go_sem, p0, p1, p2, p3]) rfl ?_
        exact PLink.bad (w3 := W5.drew) HV.out rfl (p3'.out.below HB5.out.drew) (only_trans HOA.out (only_below (Below.refl _ _).drew g)) (Nat.le_refl _) HS.out.2.1 _ _ _ _
end Go.Proofs.YtonnkibcnhjelaaGreatDoor
