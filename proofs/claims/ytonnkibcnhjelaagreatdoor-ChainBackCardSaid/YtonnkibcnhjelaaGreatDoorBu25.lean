/- Lemmas under the proofs of this place: DiskRRead, CellPGet. No statement is proved here. -/
import Derived.Test.YtonnkibcnhjelaaGreatDoorBu20
import Derived.Test.YtonnkibcnhjelaaGreatDoorBu23
import Derived.Test.YtonnkibcnhjelaaGreatDoorBu17
section
set_option linter.unusedVariables false
namespace Go.Proofs.YtonnkibcnhjelaaGreatDoor
open Go.RowKit
def RReadPost (d : Dk) (i : Int) (g : Nat) (G B : Nat → Prop) (w : World) (e : Ending) (w' : World) : Prop :=
  ∃ A c, e = .returned (.tuple #[.slice A (d.read i).2.1.length c, .int .i64 (d.read i).2.2]) ∧ Own w' w.heap.size A (d.read i).2.1 c ∧ RSame (d.read i).1 G B w w' g
set_option maxRecDepth 100000 in
set_option maxHeartbeats 2000000 in
theorem rread_any {w : World} {g : Nat} {G B : Nat → Prop} {d : Dk} (h : RDisk w g G B d) (i : Int) (hl : d.load ≤ 100000) :
    Calls Tryz.prog 33 #[.pointer (some ⟨g, 0, none⟩), .int .i64 i] w (RReadPost d i g G B w) := by
  have HT := Lib.hid (there_any h i)
  have n0 := fun w' => Tryz.notTrue w'
  have n1 := fun w' => Tryz.notFalse w'
  have r3 : w.cell? ⟨g, 3, none⟩ = some (.bool d.off) := by obtain ⟨s, cs, V, hs, hv, h⟩ := h; exact h.r3
  cases ho : d.off with
  | true =>
    have HV : Hid (d.read i = (d, [], 9)) := by show _ = _; unfold Dk.read; rw [if_pos ho]
    rw [ho] at r3
    clear ho
    go_enter Tryz.func33, Tryz.ntmps33
    go_wp2
    go_ret2
    unfold RReadPost
    rw [HV.out]
    exact ⟨none, 0, rfl, World.ownsRow_nil _ _ _ _, h, Turns.refl _ _⟩
  | false =>
    rw [ho] at r3
    cases ht : d.there i with
    | false =>
      have HV : Hid (d.read i = (d, [], 10)) := by show _ = _; unfold Dk.read; rw [ho, ht]; rfl
      rw [ht] at HT
      clear ho ht
      go_enter Tryz.func33, Tryz.ntmps33
      go_wp2_with (go_at_call 72; (with_reducible refine HT.out.mono ?_); rintro e w1 ⟨rfl, rfl⟩)
      go_ret2
      unfold RReadPost
      rw [HV.out]
      exact ⟨none, 0, rfl, World.ownsRow_nil _ _ _ _, h, Turns.refl _ _⟩
    | true =>
      have HV : Hid (d.read i = ({ d with reads := d.reads + 1 }, d.now i.toNat, 0)) := by show _ = _; unfold Dk.read; rw [ho, ht]; rfl
      rw [ht] at HT
      obtain ⟨k, rfl, hk⟩ := there_nat ht
      rw [Int.toNat_natCast] at HV
      obtain ⟨i0, hi0, hz0, hz1, hz2⟩ := info_parts Tryz.info5
      obtain ⟨s, cs, V, hs, hv, h⟩ := h
      obtain ⟨y, hy⟩ : ∃ y : Int, y = ((d.reads + 1 : Nat) : Int) := ⟨_, rfl⟩
      obtain ⟨x, hx⟩ : ∃ x : Int, x = (d.reads : Int) := ⟨_, rfl⟩
      have e1 : IntKind.i64.wrap (x + 1) = y := by
        have h1 := IntWalk.i64_in ((d.reads : Int) + 1) (by unfold Dk.load at hl; omega)
        rw [hx, hy, h1]; omega
      have r4 := h.r4
      have f4 := h.fz 4
      rw [← hx] at r4
      have HP : Hid (RDisk (w.setCell ⟨g, 4, none⟩ (.int .i64 y)) g G B { d with reads := d.reads + 1 }) := by
        refine ⟨s, cs, V, hs, hv, h.retell (turns_own w g 4 _) rfl rfl h.good.left ?_⟩
        have := h.blk.set_ 4 (.int .i64 y)
        rw [hy] at this ⊢
        exact this
      have HN : Hid (∀ W, Below (w.setCell ⟨g, 4, none⟩ (.int .i64 y)).heap.size (w.setCell ⟨g, 4, none⟩ (.int .i64 y)) W → Calls Tryz.prog 74 #[.pointer (some ⟨g, 0, none⟩), .int .i64 (k : Int)] W fun e w' => (∃ b off c, e = .returned (.slice (some ⟨b, off, none⟩) 256 c) ∧ Hid (RB W W.heap.size (some ⟨b, off, none⟩) (d.now k))) ∧ W = w') := fun W hb => by
        refine (now_any (HP.out.below hb) k hk (by show d.waits.length ≤ 1000000; unfold Dk.load at hl; omega)).mono ?_
        rintro e w' ⟨⟨v, rfl, _, b, off, c, rfl, _, _, _, hr⟩, rfl⟩
        exact ⟨⟨b, off, c, rfl, hr⟩, rfl⟩
      have HG := Lib.hid h.gg
      have hnl : (d.now k).length = 256 := Dk.fit_now h.good.fit hk
      obtain ⟨L, hL⟩ : ∃ L, L = d.now k := ⟨_, rfl⟩
      rw [← hL] at HV HN hnl
      have Hnl := Lib.hid hnl
      obtain ⟨W, hW⟩ : ∃ W, W = w.setCell ⟨g, 4, none⟩ (.int .i64 y) := ⟨_, rfl⟩
      have HT2 : Hid (Turns w W G G) := by show Turns _ _ _ _; rw [hW]; exact Turns.set_ HG.out 4 _
      have hz : W.heap.size = w.heap.size := by rw [hW]; simp [World.setCell]
      rw [← hW] at HP HN
      have HWq := Lib.hid hW
      have HZ := Lib.hid hz
      have HMd : Hid ((W.alloc (.cells #[] 5)).ownsRow w.heap.size 5 1 (.slice (some ⟨w.heap.size, 0, none⟩) 0 0) 0 []) := by
        show World.ownsRow _ _ _ _ _ _ _
        rw [← hz]; exact World.ownsRow_made W #[] 0 (Nat.le_refl _) (by decide) rfl
      clear h ho ht hk hl hx hy hL hW hz hnl
      go_enter Tryz.func33, Tryz.ntmps33
      go_wp2_with (go_at_call 72; (with_reducible refine HT.out.mono ?_); rintro e w1 ⟨rfl, rfl⟩)
      rw [← HWq.out]
      have hbA : Below W.heap.size W (W.alloc (.cells #[] 5)) := (Below.refl _ _).alloc (Nat.le_refl _) _
      go_wp2_with (first
        | (go_at_call 74; (with_reducible refine (HN.out _ hbA).mono ?_); rintro e w2 ⟨⟨b, off, c, rfl, hR⟩, rfl⟩)
        | (at_builtin; refine wpList_append_any _ rfl (.tmp 25) (.tmp 28) _ rfl w.heap.size 5 i0 _ 1 1 Tryz.underlying39 hi0 hz0 hz1 hz2 rfl (by omega) (.slice (some ⟨w.heap.size, 0, none⟩) 0 0) 0 [] rfl HMd.out _ (some ⟨b, off, none⟩) 256 c (cells L) rfl (by have := hR.out; unfold RB at this; rw [Hnl.out] at this; exact this) (cells_one _) (by simp only [maxLen]; omega) (by omega) (by have := HZ.out; simp; omega) ?_; intro v5 w5 ho5 hg5 hat5; simp only [Nat.zero_add, List.nil_append] at ho5; have hb5 : Below W.heap.size W w5 := hbA.grown hg5 (by simp) (by have := HZ.out; simp [Value.ownBlock]; omega)))
      obtain ⟨A3, c3, hv⟩ := own_form ho5
      subst hv
      go_ret2
      unfold RReadPost
      rw [HV.out]
      refine ⟨A3, c3, by simp only [Hnl.out]; rfl, ?_, HP.out.below hb5, HT2.out.trans (Turns.of_below hb5 G)⟩
      unfold Own
      simp only [Hnl.out]
      exact ho5
end Go.Proofs.YtonnkibcnhjelaaGreatDoor
end
section
set_option linter.unusedVariables false
set_option linter.unusedSimpArgs false
namespace Go.Proofs.YtonnkibcnhjelaaGreatDoor
open Go.RowKit
def GivesCn (r : Ce × Int) (w : World) (e : Ending) (w' : World) : Prop :=
  ∃ A c, e = .returned (.tuple #[ceV r.1 A c, .int .i64 r.2]) ∧ RB w' w'.heap.size A r.1.data ∧ Below w.heap.size w w' ∧ (∀ ad, A = some ad → w.heap.size ≤ ad.block)
set_option maxRecDepth 100000 in
set_option maxHeartbeats 4000000 in
theorem cget_size (b : List UInt8) (n : Nat) (A : Option Addr) (c : Nat) (w : World) (hn : n = b.length) (h : n ≠ 256) :
    Calls Tryz.prog 96 #[.slice A n c] w (GivesCn (getC b) w) := by
  have HV : Hid (getC b = (.zero, 11)) := getC_size (by omega)
  have nb := fun w' => Tryz.cellBuild0 w'
  have a24 := fun w' => Tryz.aggCell w'
  have s24 := fun w' => Tryz.sizeCell w'
  have d0 : (((n : Int) != 256)) = true := by simp; omega
  have d1 : ((n : Int) == 256) = false := by simp; omega
  clear hn h
  go_enter Tryz.func96, Tryz.ntmps96
  go_wp2
  refine bodyPost_ret (v := .tuple #[.agg #[.int .i64 0, .int .i64 0, .int .i64 0, .slice none 0 0], .int .i64 11]) (by simp [results, Tryz.results96, go_sem]) rfl ⟨none, 0, by rw [HV.out]; rfl, by rw [HV.out]; exact RB.none_ _ _, (Below.refl _ _).alloc (Nat.le_refl _) _, fun _ e => by cases e⟩
set_option maxRecDepth 100000 in
set_option maxHeartbeats 4000000 in
theorem cget_sum (b : List UInt8) (A : Option Addr) (c : Nat) (w : World) (h64 : b.length = 256) (hr : RB w w.heap.size A b) (hc : 256 ≤ c) (hcm : c ≤ 9223372036854775807) (ho : openL b = none) :
    Calls Tryz.prog 96 #[.slice A 256 c] w (GivesCn (getC b) w) := by
  have HV : Hid (getC b = (.zero, 12)) := getC_sum h64 ho
  have HO : Hid (∀ W, Below w.heap.size w W → Calls Tryz.prog 113 #[.slice A 256 c] W fun e w' => e = .returned (.tuple #[.slice none 0 0, .int .i64 12]) ∧ Below W.heap.size W w') := fun W hb => by
    have := open_any b A c _ W (rb_up7 hr hb) (by omega) hcm (by omega)
    rw [ho, h64] at this
    exact this
  have HB : Hid (Below w.heap.size w (w.alloc (.cells #[.int .i64 0, .int .i64 0, .int .i64 0, .slice none 0 0] 64))) := (Below.refl _ _).alloc (Nat.le_refl _) _
  have HC := Lib.hid (fun W hb => res_c w W hb)
  have nb := fun w' => Tryz.cellBuild0 w'
  have a24 := fun w' => Tryz.aggCell w'
  have s24 := fun w' => Tryz.sizeCell w'
  clear h64 hr hc hcm ho
  go_enter Tryz.func96, Tryz.ntmps96
  go_wp2_with (go_at_call 113; (with_reducible refine (HO.out _ HB.out).mono ?_); rintro e w1 ⟨rfl, hb1⟩; obtain ⟨⟨p0, p1, p2, p3⟩, f0, f1, f2, f3⟩ := HC.out _ hb1)
  refine bodyPost_ret (v := .tuple #[.agg #[.int .i64 0, .int .i64 0, .int .i64 0, .slice none 0 0], .int .i64 12]) (by simp [results, Tryz.results96, go_sem, p0, p1, p2, p3]) rfl ⟨none, 0, by rw [HV.out]; rfl, by rw [HV.out]; exact RB.none_ _ _, below_four (chain7 HB.out hb1) (Nat.le_refl _) _ _ _ _, fun _ e => by cases e⟩
set_option maxRecDepth 100000 in
set_option maxHeartbeats 4000000 in
theorem cget_in (b M : List UInt8) (A : Option Addr) (c : Nat) (w : World) (h64 : b.length = 256) (hr : RB w w.heap.size A b) (hc : 256 ≤ c) (hcm : c ≤ 9223372036854775807) (ho : openL b = some M) :
    Calls Tryz.prog 96 #[.slice A 256 c] w (GivesCn (getC b) w) := by
  have hM : M.length = 252 := by have := (openL_some ho).2; omega
  have HO : Hid (∀ W, Below w.heap.size w W → Calls Tryz.prog 113 #[.slice A 256 c] W fun e w' => ∃ A c, e = .returned (.tuple #[.slice A 252 c, .int .i64 0]) ∧ Hid (RB w' w'.heap.size A M) ∧ Below W.heap.size W w') := fun W hb => by
    have := open_any b A c _ W (rb_up7 hr hb) (by omega) hcm (by omega)
    rw [ho, h64] at this
    refine this.mono fun e w' hh => ?_
    obtain ⟨A, c, he, h2, h3⟩ := hh
    rw [hM] at he
    exact ⟨A, c, he, own_rb h2, h3⟩
  have HF : Hid (∀ W (A : Option Addr) (c : Nat), RB W W.heap.size A M → Calls Tryz.prog 115 #[.slice A 252 c] W fun e w' => ∃ g, e = .returned (.pointer (some ⟨g, 0, none⟩)) ∧ W.heap.size ≤ g ∧ Hid (Cur w' g (some M)) ∧ Below W.heap.size W w') := fun W A c h => by
    have := from_any M A c W h (by omega)
    rw [hM] at this
    exact this
  have HB : Hid (Below w.heap.size w (w.alloc (.cells #[.int .i64 0, .int .i64 0, .int .i64 0, .slice none 0 0] 64))) := (Below.refl _ _).alloc (Nat.le_refl _) _
  have HC := Lib.hid (fun W hb => res_c w W hb)
  have nb := fun w' => Tryz.cellBuild0 w'
  have a24 := fun w' => Tryz.aggCell w'
  have s24 := fun w' => Tryz.sizeCell w'
  have nf := fun w' => Tryz.notFalse w'
  have nt := fun w' => Tryz.notTrue w'
  by_cases hf : FormedC M
  · have HV : Hid (getC b = (cellOf M, 0)) := getC_ok h64 ho hf
    rcases hs : cellOf M with ⟨oz, nz, xz, D⟩
    obtain ⟨m, hm⟩ : ∃ m, m = D.length := ⟨_, rfl⟩
    have HT : Hid (∀ W g, Hid (Cur W g (some M)) → Calls Tryz.prog 114 #[.pointer (some ⟨g, 0, none⟩)] W fun e w' => ∃ A c, e = .returned (.tuple #[.agg #[.int .i64 oz, .int .i64 nz, .int .i64 xz, .slice A m c], .bool true]) ∧ Hid (RB w' w'.heap.size A D) ∧ Hid (Only W w' g) ∧ Hid (∀ ad, A = some ad → W.heap.size ≤ ad.block)) := fun W g h => by
      refine (ctaken_good M hM g W h.out hf).mono fun e w' hh => ?_
      obtain ⟨A, c, he, h2, h3, h4⟩ := hh
      rw [hs] at he h2
      unfold ceV at he
      simp only [← hm] at he
      exact ⟨A, c, he, h2, h3, h4⟩
    rw [hs] at HV
    have HM := Lib.hid hm
    clear hM h64 hr hc hcm ho hf hs hm
    go_enter Tryz.func96, Tryz.ntmps96
    go_wp2_with (first
      | (go_at_call 113; (with_reducible refine (HO.out _ HB.out).mono ?_); rintro e w1 ⟨A1, c1, rfl, r1, b1⟩; have r1' := r1.out)
      | (go_at_call 115; (with_reducible refine (HF.out _ _ _ r1').mono ?_); rintro e w2 ⟨g, rfl, hg2, cu2, b2⟩; have b12 := chain7 b1 b2)
      | (go_at_call 114; (with_reducible refine (HT.out _ _ cu2).mono ?_); rintro e w3 ⟨A3, c3, rfl, r3, o3, n3⟩; have b3 := below_only b12 o3.out (Nat.le_trans b1.size hg2) b12.size; have b4 := b3.alloc b3.size (.cells #[.int .i64 oz, .int .i64 nz, .int .i64 xz, .slice A3 m c3] 64); obtain ⟨⟨p0, p1, p2, p3⟩, f0, f1, f2, f3⟩ := HC.out _ b4))
    refine bodyPost_ret (v := .tuple #[.agg #[.int .i64 oz, .int .i64 nz, .int .i64 xz, .slice A3 m c3], .int .i64 0]) (by simp [results, Tryz.results96, go_sem, p0, p1, p2, p3]) rfl ⟨A3, c3, ?_, ?_, below_four (HB.out.trans (b4.mono HB.out.size)) (Nat.le_refl _) _ _ _ _, fun ad e => Nat.le_trans (Nat.le_trans HB.out.size b12.size) (n3.out ad e)⟩
    · rw [HV.out, HM.out]
      rfl
    · rw [HV.out]
      exact rb_four (rb_up7 r3.out ((Below.refl _ _).alloc (Nat.le_refl _) _)) (Blk.below (Blk.new w 64 _) b4 (by simp)) (no8_cell _ _ _ _ _ _) _ _ _ _
  · have HV : Hid (getC b = (.zero, 5)) := getC_form h64 ho hf
    have HT : Hid (∀ W g, Hid (Cur W g (some M)) → Calls Tryz.prog 114 #[.pointer (some ⟨g, 0, none⟩)] W fun e w' => ∃ A c, e = .returned (.tuple #[.agg #[.int .i64 0, .int .i64 0, .int .i64 0, .slice A 0 c], .bool false]) ∧ Hid (Only W w' g)) := fun W g h => by
      refine (ctaken_bad M hM g W h.out hf).mono fun e w' hh => ?_
      obtain ⟨A, c, he, h2, h3⟩ := hh
      exact ⟨A, c, he, h3⟩
    clear hM h64 hr hc hcm ho hf
    go_enter Tryz.func96, Tryz.ntmps96
    go_wp2_with (first
      | (go_at_call 113; (with_reducible refine (HO.out _ HB.out).mono ?_); rintro e w1 ⟨A1, c1, rfl, r1, b1⟩; have r1' := r1.out)
      | (go_at_call 115; (with_reducible refine (HF.out _ _ _ r1').mono ?_); rintro e w2 ⟨g, rfl, hg2, cu2, b2⟩; have b12 := chain7 b1 b2)
      | (go_at_call 114; (with_reducible refine (HT.out _ _ cu2).mono ?_); rintro e w3 ⟨A3, c3, rfl, o3⟩; have b3 := below_only b12 o3.out (Nat.le_trans b1.size hg2) b12.size; have b4 := b3.alloc b3.size (.cells #[.int .i64 0, .int .i64 0, .int .i64 0, .slice A3 0 c3] 64); obtain ⟨⟨p0, p1, p2, p3⟩, f0, f1, f2, f3⟩ := HC.out _ b4))
    refine bodyPost_ret (v := .tuple #[.agg #[.int .i64 0, .int .i64 0, .int .i64 0, .slice none 0 0], .int .i64 5]) (by simp [results, Tryz.results96, go_sem, p0, p1, p2, p3]) rfl ⟨none, 0, by rw [HV.out]; rfl, by rw [HV.out]; exact RB.none_ _ _, below_four (HB.out.trans (b4.mono HB.out.size)) (Nat.le_refl _) _ _ _ _, fun _ e => by cases e⟩
theorem cget_lies (b : List UInt8) (A : Option Addr) (c : Nat) (w : World) (hr : RB w w.heap.size A b) (hc : b.length ≤ c) (hcm : c ≤ 9223372036854775807) (hl : b.length ≤ 1000000) :
    Calls Tryz.prog 96 #[.slice A b.length c] w (GivesCn (getC b) w) := by
  by_cases h : b.length = 256
  · rw [h]
    cases ho : openL b with
    | none => exact cget_sum b A c w h hr (by omega) hcm ho
    | some M => exact cget_in b M A c w h hr (by omega) hcm ho
  · exact cget_size b _ A c w rfl h
end Go.Proofs.YtonnkibcnhjelaaGreatDoor
end
