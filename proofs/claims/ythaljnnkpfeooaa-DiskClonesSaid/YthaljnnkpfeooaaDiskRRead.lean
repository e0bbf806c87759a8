/- The walks of the reference's Read, Image, Sure (layer 6). -/
import Derived.Test.YthaljnnkpfeooaaDiskRSmall
set_option linter.unusedVariables false
namespace Go.Proofs.Ythaljnnkpfeooaa
open Go.RowKit

def RReadPost (d : Dk) (i : Int) (g : Nat) (G B : Nat → Prop) (w : World) (e : Ending) (w' : World) : Prop :=
  ∃ A c, e = .returned (.tuple #[.slice A (d.read i).2.1.length c, .int .i64 (d.read i).2.2]) ∧ Own w' w.heap.size A (d.read i).2.1 c ∧ RSame (d.read i).1 G B w w' g
set_option maxRecDepth 100000 in
set_option maxHeartbeats 2000000 in
theorem rread_any {w : World} {g : Nat} {G B : Nat → Prop} {d : Dk} (h : RDisk w g G B d) (i : Int) (hl : d.load ≤ 100000) :
    Calls Try.prog 33 #[.pointer (some ⟨g, 0, none⟩), .int .i64 i] w (RReadPost d i g G B w) := by
  have HT := Lib.hid (there_any h i)
  have n0 := fun w' => Try.notTrue w'
  have n1 := fun w' => Try.notFalse w'
  have r3 : w.cell? ⟨g, 3, none⟩ = some (.bool d.off) := by obtain ⟨s, cs, V, hs, hv, h⟩ := h; exact h.r3
  cases ho : d.off with
  | true =>
    have HV : Hid (d.read i = (d, [], 9)) := by show _ = _; unfold Dk.read; rw [if_pos ho]
    rw [ho] at r3
    clear ho
    go_enter Try.func33, Try.ntmps33
    go_wp2
    go_ret2
    unfold RReadPost
    rw [HV.out]
    exact ⟨none, 0, rfl, World.ownsRow_nil _ _ _ _, h, Turns.refl _ _⟩
  | false =>
    rw [ho] at r3
    cases ht : d.there i with
    | false =>
      have HV : Hid (d.read i = (d, [], 10)) := by show _ = _; unfold Dk.read; rw [ho, ht]; rfl
      rw [ht] at HT
      clear ho ht
      go_enter Try.func33, Try.ntmps33
      go_wp2_with (go_at_call 50; (with_reducible refine HT.out.mono ?_); rintro e w1 ⟨rfl, rfl⟩)
      go_ret2
      unfold RReadPost
      rw [HV.out]
      exact ⟨none, 0, rfl, World.ownsRow_nil _ _ _ _, h, Turns.refl _ _⟩
    | true =>
      have HV : Hid (d.read i = ({ d with reads := d.reads + 1 }, d.now i.toNat, 0)) := by show _ = _; unfold Dk.read; rw [ho, ht]; rfl
      rw [ht] at HT
      obtain ⟨k, rfl, hk⟩ := there_nat ht
      rw [Int.toNat_natCast] at HV
      obtain ⟨i0, hi0, hz0, hz1, hz2⟩ := info_parts Try.info5
      obtain ⟨s, cs, V, hs, hv, h⟩ := h
      obtain ⟨y, hy⟩ : ∃ y : Int, y = ((d.reads + 1 : Nat) : Int) := ⟨_, rfl⟩
      obtain ⟨x, hx⟩ : ∃ x : Int, x = (d.reads : Int) := ⟨_, rfl⟩
      have e1 : IntKind.i64.wrap (x + 1) = y := by
        have h1 := IntWalk.i64_in ((d.reads : Int) + 1) (by unfold Dk.load at hl; omega)
        rw [hx, hy, h1]; omega
      have r4 := h.r4
      have f4 := h.fz 4
      rw [← hx] at r4
      have HP : Hid (RDisk (w.setCell ⟨g, 4, none⟩ (.int .i64 y)) g G B { d with reads := d.reads + 1 }) := by
        refine ⟨s, cs, V, hs, hv, h.retell (turns_own w g 4 _) rfl rfl h.good.left ?_⟩
        have := h.blk.set_ 4 (.int .i64 y)
        rw [hy] at this ⊢
        exact this
      have HN : Hid (∀ W, Below (w.setCell ⟨g, 4, none⟩ (.int .i64 y)).heap.size (w.setCell ⟨g, 4, none⟩ (.int .i64 y)) W → Calls Try.prog 51 #[.pointer (some ⟨g, 0, none⟩), .int .i64 (k : Int)] W fun e w' => (∃ b off c, e = .returned (.slice (some ⟨b, off, none⟩) 256 c) ∧ Hid (RB W W.heap.size (some ⟨b, off, none⟩) (d.now k))) ∧ W = w') := fun W hb => by
        refine (now_any (HP.out.below hb) k hk (by show d.waits.length ≤ 1000000; unfold Dk.load at hl; omega)).mono ?_
        rintro e w' ⟨⟨v, rfl, _, b, off, c, rfl, _, _, _, hr⟩, rfl⟩
        exact ⟨⟨b, off, c, rfl, hr⟩, rfl⟩
      have HG := Lib.hid h.gg
      have hnl : (d.now k).length = 256 := Dk.fit_now h.good.fit hk
      obtain ⟨L, hL⟩ : ∃ L, L = d.now k := ⟨_, rfl⟩
      rw [← hL] at HV HN hnl
      have Hnl := Lib.hid hnl
      obtain ⟨W, hW⟩ : ∃ W, W = w.setCell ⟨g, 4, none⟩ (.int .i64 y) := ⟨_, rfl⟩
      have HT2 : Hid (Turns w W G G) := by show Turns _ _ _ _; rw [hW]; exact Turns.set_ HG.out 4 _
      have hz : W.heap.size = w.heap.size := by rw [hW]; simp [World.setCell]
      rw [← hW] at HP HN
      have HWq := Lib.hid hW
      have HZ := Lib.hid hz
      have HMd : Hid ((W.alloc (.cells #[] 5)).ownsRow w.heap.size 5 1 (.slice (some ⟨w.heap.size, 0, none⟩) 0 0) 0 []) := by
        show World.ownsRow _ _ _ _ _ _ _
        rw [← hz]; exact World.ownsRow_made W #[] 0 (Nat.le_refl _) (by decide) rfl
      clear h ho ht hk hl hx hy hL hW hz hnl
      go_enter Try.func33, Try.ntmps33
      go_wp2_with (go_at_call 50; (with_reducible refine HT.out.mono ?_); rintro e w1 ⟨rfl, rfl⟩)
      rw [← HWq.out]
      have hbA : Below W.heap.size W (W.alloc (.cells #[] 5)) := (Below.refl _ _).alloc (Nat.le_refl _) _
      go_wp2_with (first
        | (go_at_call 51; (with_reducible refine (HN.out _ hbA).mono ?_); rintro e w2 ⟨⟨b, off, c, rfl, hR⟩, rfl⟩)
        | (at_builtin; refine wpList_append_any _ rfl (.tmp 25) (.tmp 28) _ rfl w.heap.size 5 i0 _ 1 1 Try.underlying33 hi0 hz0 hz1 hz2 rfl (by omega) (.slice (some ⟨w.heap.size, 0, none⟩) 0 0) 0 [] rfl HMd.out _ (some ⟨b, off, none⟩) 256 c (cells L) rfl (by have := hR.out; unfold RB at this; rw [Hnl.out] at this; exact this) (cells_one _) (by simp only [maxLen]; omega) (by omega) (by have := HZ.out; simp; omega) ?_; intro v5 w5 ho5 hg5 hat5; simp only [Nat.zero_add, List.nil_append] at ho5; have hb5 : Below W.heap.size W w5 := hbA.grown hg5 (by simp) (by have := HZ.out; simp [Value.ownBlock]; omega)))
      obtain ⟨A3, c3, hv⟩ := own_form ho5
      subst hv
      go_ret2
      unfold RReadPost
      rw [HV.out]
      refine ⟨A3, c3, by simp only [Hnl.out]; rfl, ?_, HP.out.below hb5, HT2.out.trans (Turns.of_below hb5 G)⟩
      unfold Own
      simp only [Hnl.out]
      exact ho5

end Go.Proofs.Ythaljnnkpfeooaa
