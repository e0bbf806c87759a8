/- Lemmas under the proofs of this place: WalSurvM, SectPGet, DiskPFlush, WalAwM. No statement is proved here. -/
import Derived.Test.YtghenhacndaelaaBu21
import Derived.Test.YtghenhacndaelaaBu22
import Derived.Test.YtghenhacndaelaaBu18
import Derived.Deep.RegionHeldLaw
set_option linter.unusedSimpArgs false
set_option linter.unusedVariables false
set_option maxRecDepth 100000
set_option maxHeartbeats 16000000
namespace Go.Proofs.Ytghenhacndaelaa
section
namespace Wal
section
variable {d : Dk} {l : Lg} {len : Nat} {t : List UInt8}
theorem append_load (hf : l.fit len) : (appendW d l t).1.load ≤ d.load + (2 * (l.n / 4) + 1) := by
  unfold appendW
  split
  · simp only []; omega
  split
  · simp only []; omega
  split
  · simp only []; omega
  rename_i h1 h2 h3
  have hu : used l = l.b.length / 64 := rfl
  obtain ⟨f1, f2, f3, f4, f5, f6⟩ := hf
  have hr := (rec_bytes (used l) l.epoch t).1
  have hl := all_length l.b (recBytes (used l) l.epoch t)
  have hp := pad_lt (l.b.length + (recBytes (used l) l.epoch t).length)
  have hq := pad_mod (l.b.length + (recBytes (used l) l.epoch t).length)
  have hm : (allW l.b (recBytes (used l) l.epoch t)).length / 256 - used l / 4 ≤ l.n / 4 := by omega
  have hk := (keep_writes l.frm (allW l.b (recBytes (used l) l.epoch t)) ((allW l.b (recBytes (used l) l.epoch t)).length / 256 - used l / 4) (used l / 4) d).2
  have hz := (keep_flush (writesW l.frm (allW l.b (recBytes (used l) l.epoch t)) ((allW l.b (recBytes (used l) l.epoch t)).length / 256 - used l / 4) (used l / 4) d).1).2
  simp only []
  split
  · simp only []; omega
  split
  · simp only []; omega
  · simp only []; omega
end
structure Sv (d : Dk) (l : Lg) (i : Nat) (all : List (List UInt8)) : Prop where
  live : ∃ u, Live d l u all
  frm : l.frm = 2
  n : l.n = 16
  epoch : l.epoch = ((i + 1 : Nat) : Int)
  len : d.safe.length = 16
def SvOut (d : Dk) (i : Nat) (all last : List (List UInt8)) : Prop := d.safe.length = 16 ∧ ∀ masks, Left (d.crash masks) 2 16 16 ((i + 1 + 1 : Nat) : Int) all ∨ Left (d.crash masks) 2 16 16 ((i + 1 + 1 : Nat) : Int) last
section
variable {d : Dk} {l : Lg} {i : Nat} {all : List (List UInt8)}
theorem Sv.fit (h : Sv d l i all) : l.fit 16 := by
  obtain ⟨u, hu⟩ := h.live
  have h1 := hu.len
  have h2 := hu.top
  have h3 := hu.epoch
  have h4 := h.n
  have h5 := h.frm
  exact ⟨by omega, by omega, by omega, by omega, by omega, by omega⟩
theorem Sv.out (h : Sv d l i all) : SvOut d i all all := by
  obtain ⟨u, hu⟩ := h.live
  refine ⟨h.len, fun masks => .inl ?_⟩
  have h1 := hu.crash masks
  rw [h.frm, h.n, h.len, h.epoch] at h1
  have e : ((i + 1 : Nat) : Int) + 1 = ((i + 1 + 1 : Nat) : Int) := by omega
  rwa [e] at h1
theorem Sv.stop (h : Sv d l i all) (z : Int) : Sv (d.stop z).1 l i all := by
  obtain ⟨u, hu⟩ := h.live
  exact ⟨⟨u, hu.stop z⟩, h.frm, h.n, h.epoch, by rw [(keep_stop d z).1]; exact h.len⟩
theorem Sv.append (h : Sv d l i all) (t : List UInt8) :
    (((appendW d l t).2.2 = 1 ∨ (appendW d l t).2.2 = 2) ∧ Sv (appendW d l t).1 (appendW d l t).2.1 i all) ∨
    ((appendW d l t).2.2 = 0 ∧ Sv (appendW d l t).1 (appendW d l t).2.1 i (all ++ [t])) ∨
    ((appendW d l t).2.2 = 9 ∧ SvOut (appendW d l t).1 i all (all ++ [t])) := by
  obtain ⟨u, hu⟩ := h.live
  rcases append_live hu t with ⟨h1, h2, h3⟩ | ⟨h1, h2, h3, h4, h5, h6⟩ | ⟨h1, h2, h3⟩
  · exact .inl ⟨h1, by rw [h2, h3]; exact h⟩
  · exact .inr (.inl ⟨h1, ⟨_, h2⟩, h3.trans h.frm, h4.trans h.n, h5.trans h.epoch, h6.trans h.len⟩)
  · refine .inr (.inr ⟨h1, h2.trans h.len, fun masks => ?_⟩)
    have h4 := h3 masks
    rw [h.frm, h.n, h.len, h.epoch] at h4
    have e : ((i + 1 : Nat) : Int) + 1 = ((i + 1 + 1 : Nat) : Int) := by omega
    rwa [e] at h4
theorem Sv.begin_ {R : List (List UInt8)} (h : Left d 2 16 16 ((i + 1 : Nat) : Int) R) (hi : i ≤ 1000) : ∃ l, openW d 2 4 1 ((i + 1 : Nat) : Int) = ({ d with reads := d.reads + 4 }, some l, R, 0) ∧ Sv { d with reads := d.reads + 4 } l i R ∧ Left { d with reads := d.reads + 4 } 2 16 16 ((i + 1 : Nat) : Int) R := by
  obtain ⟨l, u, h1, h2, h3, h4, h5, h6⟩ := open_left h ⟨by omega, by omega, by omega⟩ (by omega) ⟨by omega, by omega⟩
  exact ⟨l, h1, ⟨⟨u, h2⟩, h3, h4, h5, h.2.2.2.2.1⟩, h6⟩
end
end Wal
end
section
open Go.RowKit
theorem taken_bad (M : List UInt8) (hM : M.length = 60) (g : Nat) (w : World) (h : Cur w g (some M)) (hf : ¬ Formed M) :
    Calls Try.prog 53 #[.pointer (some ⟨g, 0, none⟩)] w (GivesT (.zero, false) g w) := by
  by_cases h48 : (M.getD 1 0).toNat ≤ 48
  · cases hm : Sd.may ⟨((M.getD 0 0).toNat : Int), capZ (unfixL ((M.drop 4).take 4)), capZ (unfixL ((M.drop 8).take 4)), (unfixL ((M.drop 2).take 2) : Int), (M.drop 12).take (M.getD 1 0).toNat⟩ with
    | false => exact taken_no M hM g w h h48 hm
    | true =>
      refine taken_odd M hM g w h h48 hm fun hz => hf ?_
      obtain ⟨a1, a2, a3, a4, a5, a6, a7, a8, a9⟩ := (Sd.may_iff _).1 hm
      simp only at a1 a2 a3 a4 a5 a6 a7 a8 a9
      refine ⟨by omega, h48, ?_, ?_, by rw [← List.drop_drop]; exact hz⟩
      · unfold capZ at a3
        split at a3
        · assumption
        · omega
      · unfold capZ at a5
        split at a5
        · assumption
        · omega
  · exact taken_long M hM g w h (by omega)
theorem taken_good (M : List UInt8) (hM : M.length = 60) (g : Nat) (w : World) (h : Cur w g (some M)) (hf : Formed M) :
    Calls Try.prog 53 #[.pointer (some ⟨g, 0, none⟩)] w (GivesTn (secOf M, true) g w) := by
  obtain ⟨h1, h2, h3, h4, h5⟩ := hf
  have hlt := (M.getD 0 0).toNat_lt
  have e1 : capZ (unfixL ((M.drop 4).take 4)) = (unfixL ((M.drop 4).take 4) : Int) := by unfold capZ; rw [if_pos h3]
  have e2 : capZ (unfixL ((M.drop 8).take 4)) = (unfixL ((M.drop 8).take 4) : Int) := by unfold capZ; rw [if_pos h4]
  have l2 := unfixL_lt ((M.drop 2).take 2)
  have l3 : ((M.drop 2).take 2).length = 2 := by simp; omega
  rw [l3] at l2
  have key := taken_ok M hM g w h h2 (by
    rw [Sd.may_iff, e1, e2]
    have : (256 : Nat) ^ 2 = 65536 := rfl
    refine ⟨?_, ?_, ?_, ?_, ?_, ?_, ?_, ?_, ?_⟩
    · show (1 : Int) ≤ ((M.getD 0 0).toNat : Int); omega
    · show ((M.getD 0 0).toNat : Int) ≤ 255; omega
    · show (0 : Int) ≤ (unfixL ((M.drop 4).take 4) : Int); omega
    · show (unfixL ((M.drop 4).take 4) : Int) ≤ 2147483647; omega
    · show (0 : Int) ≤ (unfixL ((M.drop 8).take 4) : Int); omega
    · show (unfixL ((M.drop 8).take 4) : Int) ≤ 2147483647; omega
    · show (0 : Int) ≤ (unfixL ((M.drop 2).take 2) : Int); omega
    · show (unfixL ((M.drop 2).take 2) : Int) ≤ 65535; omega
    · show ((M.drop 12).take (M.getD 1 0).toNat).length ≤ 48
      rw [List.length_take]; omega) (by rw [List.drop_drop]; exact h5)
  rw [e1, e2] at key
  exact key
def GivesSn (r : Sd × Int) (w : World) (e : Ending) (w' : World) : Prop :=
  ∃ A c, e = .returned (.tuple #[secV r.1 A c, .int .i64 r.2]) ∧ RB w' w'.heap.size A r.1.data ∧ (∀ ad, A = some ad → w.heap.size ≤ ad.block) ∧ Below w.heap.size w w'
theorem sget_size (b : List UInt8) (n : Nat) (A : Option Addr) (c : Nat) (w : World) (hn : n = b.length) (h : n ≠ 64) :
    Calls Try.prog 39 #[.slice A n c] w (GivesSn (getS b) w) := by
  have HV : Hid (getS b = (.zero, 11)) := getS_size (by omega)
  have nb := fun w' => Try.secBuild0 w'
  have a24 := fun w' => Try.aggSec w'
  have s24 := fun w' => Try.sizeSec w'
  have d0 : (((n : Int) != 64)) = true := by simp; omega
  have d1 : ((n : Int) == 64) = false := by simp; omega
  clear hn h
  go_enter Try.func39, Try.ntmps39
  go_wp2
  refine bodyPost_ret (v := .tuple #[.agg #[.int .i64 0, .int .i64 0, .int .i64 0, .int .i64 0, .slice none 0 0], .int .i64 11]) (by simp [results, Try.results39, go_sem]) rfl ⟨none, 0, by rw [HV.out]; rfl, by rw [HV.out]; exact RB.none_ _ _, (fun ad e => nomatch e), (Below.refl _ _).alloc (Nat.le_refl _) _⟩
theorem sget_sum (b : List UInt8) (A : Option Addr) (c : Nat) (w : World) (h64 : b.length = 64) (hr : RB w w.heap.size A b) (hc : 64 ≤ c) (hcm : c ≤ 9223372036854775807) (ho : openL b = none) :
    Calls Try.prog 39 #[.slice A 64 c] w (GivesSn (getS b) w) := by
  have HV : Hid (getS b = (.zero, 12)) := getS_sum h64 ho
  have HO : Hid (∀ W, Below w.heap.size w W → Calls Try.prog 52 #[.slice A 64 c] W fun e w' => e = .returned (.tuple #[.slice none 0 0, .int .i64 12]) ∧ Below W.heap.size W w') := fun W hb => by
    have := open_any b A c _ W (rb_up7 hr hb) (by omega) hcm (by omega)
    rw [ho, h64] at this
    exact this
  have HB : Hid (Below w.heap.size w (w.alloc (.cells #[.int .i64 0, .int .i64 0, .int .i64 0, .int .i64 0, .slice none 0 0] 79))) := (Below.refl _ _).alloc (Nat.le_refl _) _
  have HC := Lib.hid (fun W hb => res_at w W hb)
  have nb := fun w' => Try.secBuild0 w'
  have a24 := fun w' => Try.aggSec w'
  have s24 := fun w' => Try.sizeSec w'
  clear h64 hr hc hcm ho
  go_enter Try.func39, Try.ntmps39
  go_wp2_with (go_at_call 52; (with_reducible refine (HO.out _ HB.out).mono ?_); rintro e w1 ⟨rfl, hb1⟩; obtain ⟨⟨p0, p1, p2, p3, p4⟩, f0, f1, f2, f3, f4⟩ := HC.out _ hb1)
  refine bodyPost_ret (v := .tuple #[.agg #[.int .i64 0, .int .i64 0, .int .i64 0, .int .i64 0, .slice none 0 0], .int .i64 12]) (by simp [results, Try.results39, go_sem, p0, p1, p2, p3, p4]) rfl ⟨none, 0, by rw [HV.out]; rfl, by rw [HV.out]; exact RB.none_ _ _, (fun ad e => nomatch e), below_five (chain7 HB.out hb1) (Nat.le_refl _) _ _ _ _ _⟩
theorem sget_in (b M : List UInt8) (A : Option Addr) (c : Nat) (w : World) (h64 : b.length = 64) (hr : RB w w.heap.size A b) (hc : 64 ≤ c) (hcm : c ≤ 9223372036854775807) (ho : openL b = some M) :
    Calls Try.prog 39 #[.slice A 64 c] w (GivesSn (getS b) w) := by
  have hM : M.length = 60 := by have := (openL_some ho).2; omega
  have HO : Hid (∀ W, Below w.heap.size w W → Calls Try.prog 52 #[.slice A 64 c] W fun e w' => ∃ A c, e = .returned (.tuple #[.slice A 60 c, .int .i64 0]) ∧ Hid (RB w' w'.heap.size A M) ∧ Below W.heap.size W w') := fun W hb => by
    have := open_any b A c _ W (rb_up7 hr hb) (by omega) hcm (by omega)
    rw [ho, h64] at this
    refine this.mono fun e w' hh => ?_
    obtain ⟨A, c, he, h2, h3⟩ := hh
    rw [hM] at he
    exact ⟨A, c, he, own_rb h2, h3⟩
  have HF : Hid (∀ W (A : Option Addr) (c : Nat), RB W W.heap.size A M → Calls Try.prog 54 #[.slice A 60 c] W fun e w' => ∃ g, e = .returned (.pointer (some ⟨g, 0, none⟩)) ∧ W.heap.size ≤ g ∧ Hid (Cur w' g (some M)) ∧ Below W.heap.size W w') := fun W A c h => by
    have := from_any M A c W h (by omega)
    rw [hM] at this
    exact this
  have HB : Hid (Below w.heap.size w (w.alloc (.cells #[.int .i64 0, .int .i64 0, .int .i64 0, .int .i64 0, .slice none 0 0] 79))) := (Below.refl _ _).alloc (Nat.le_refl _) _
  have HC := Lib.hid (fun W hb => res_at w W hb)
  have nb := fun w' => Try.secBuild0 w'
  have a24 := fun w' => Try.aggSec w'
  have s24 := fun w' => Try.sizeSec w'
  by_cases hf : Formed M
  · have HV : Hid (getS b = (secOf M, 0)) := getS_ok h64 ho hf
    rcases hs : secOf M with ⟨kz, ez, nz, lz, D⟩
    obtain ⟨m, hm⟩ : ∃ m, m = D.length := ⟨_, rfl⟩
    have HT : Hid (∀ W g, Hid (Cur W g (some M)) → Calls Try.prog 53 #[.pointer (some ⟨g, 0, none⟩)] W fun e w' => ∃ A c, e = .returned (.tuple #[.agg #[.int .i64 kz, .int .i64 ez, .int .i64 nz, .int .i64 lz, .slice A m c], .bool true]) ∧ Hid (RB w' w'.heap.size A D) ∧ Hid (Only W w' g) ∧ Hid (∀ ad, A = some ad → W.heap.size ≤ ad.block)) := fun W g h => by
      refine (taken_good M hM g W h.out hf).mono fun e w' hh => ?_
      obtain ⟨A, c, he, h2, h3, h4⟩ := hh
      rw [hs] at he h2
      unfold secV at he
      simp only [← hm] at he
      exact ⟨A, c, he, h2, h3, h4⟩
    rw [hs] at HV
    have HM := Lib.hid hm
    clear hM h64 hr hc hcm ho hf hs hm
    go_enter Try.func39, Try.ntmps39
    go_wp2_with (first
      | (go_at_call 52; (with_reducible refine (HO.out _ HB.out).mono ?_); rintro e w1 ⟨A1, c1, rfl, r1, b1⟩; have r1' := r1.out)
      | (go_at_call 54; (with_reducible refine (HF.out _ _ _ r1').mono ?_); rintro e w2 ⟨g, rfl, hg2, cu2, b2⟩; have b12 := chain7 b1 b2)
      | (go_at_call 53; (with_reducible refine (HT.out _ _ cu2).mono ?_); rintro e w3 ⟨A3, c3, rfl, r3, o3, nw3⟩; have NW3 : Hid (∀ ad, A3 = some ad → w.heap.size ≤ ad.block) := fun ad e => Nat.le_trans (chain7 HB.out b12).size (nw3.out ad e); have b3 := below_only b12 o3.out (Nat.le_trans b1.size hg2) b12.size; have b4 := b3.alloc b3.size (.cells #[.int .i64 kz, .int .i64 ez, .int .i64 nz, .int .i64 lz, .slice A3 m c3] 79); obtain ⟨⟨p0, p1, p2, p3, p4⟩, f0, f1, f2, f3, f4⟩ := HC.out _ b4))
    refine bodyPost_ret (v := .tuple #[.agg #[.int .i64 kz, .int .i64 ez, .int .i64 nz, .int .i64 lz, .slice A3 m c3], .int .i64 0]) (by simp [results, Try.results39, go_sem, p0, p1, p2, p3, p4]) rfl ⟨A3, c3, ?_, ?_, NW3.out, below_five (HB.out.trans (b4.mono HB.out.size)) (Nat.le_refl _) _ _ _ _ _⟩
    · rw [HV.out, HM.out]
      rfl
    · rw [HV.out]
      exact rb_five (rb_up7 r3.out ((Below.refl _ _).alloc (Nat.le_refl _) _)) (Blk.below (Blk.new w 79 _) b4 (by simp)) (no8_sec _ _ _ _ _ _ _) _ _ _ _ _
  · have HV : Hid (getS b = (.zero, 5)) := getS_form h64 ho hf
    have HT : Hid (∀ W g, Hid (Cur W g (some M)) → Calls Try.prog 53 #[.pointer (some ⟨g, 0, none⟩)] W fun e w' => ∃ A c, e = .returned (.tuple #[.agg #[.int .i64 0, .int .i64 0, .int .i64 0, .int .i64 0, .slice A 0 c], .bool false]) ∧ Hid (Only W w' g)) := fun W g h => by
      refine (taken_bad M hM g W h.out hf).mono fun e w' hh => ?_
      obtain ⟨A, c, he, h2, h3⟩ := hh
      exact ⟨A, c, he, h3⟩
    clear hM h64 hr hc hcm ho hf
    go_enter Try.func39, Try.ntmps39
    go_wp2_with (first
      | (go_at_call 52; (with_reducible refine (HO.out _ HB.out).mono ?_); rintro e w1 ⟨A1, c1, rfl, r1, b1⟩; have r1' := r1.out)
      | (go_at_call 54; (with_reducible refine (HF.out _ _ _ r1').mono ?_); rintro e w2 ⟨g, rfl, hg2, cu2, b2⟩; have b12 := chain7 b1 b2)
      | (go_at_call 53; (with_reducible refine (HT.out _ _ cu2).mono ?_); rintro e w3 ⟨A3, c3, rfl, o3⟩; have b3 := below_only b12 o3.out (Nat.le_trans b1.size hg2) b12.size; have b4 := b3.alloc b3.size (.cells #[.int .i64 0, .int .i64 0, .int .i64 0, .int .i64 0, .slice A3 0 c3] 79); obtain ⟨⟨p0, p1, p2, p3, p4⟩, f0, f1, f2, f3, f4⟩ := HC.out _ b4))
    refine bodyPost_ret (v := .tuple #[.agg #[.int .i64 0, .int .i64 0, .int .i64 0, .int .i64 0, .slice none 0 0], .int .i64 5]) (by simp [results, Try.results39, go_sem, p0, p1, p2, p3, p4]) rfl ⟨none, 0, by rw [HV.out]; rfl, by rw [HV.out]; exact RB.none_ _ _, (fun ad e => nomatch e), below_five (HB.out.trans (b4.mono HB.out.size)) (Nat.le_refl _) _ _ _ _ _⟩
theorem sget_new (b : List UInt8) (A : Option Addr) (c : Nat) (w : World) (hr : RB w w.heap.size A b) (hc : b.length ≤ c) (hcm : c ≤ 9223372036854775807) (hl : b.length ≤ 1000000) :
    Calls Try.prog 39 #[.slice A b.length c] w (GivesSn (getS b) w) := by
  by_cases h : b.length = 64
  · rw [h]
    cases ho : openL b with
    | none => exact sget_sum b A c w h hr (by omega) hcm ho
    | some M => exact sget_in b M A c w h hr (by omega) hcm ho
  · exact sget_size b _ A c w rfl h
end
section
open Go.RowKit
section
variable {w w' : World} {g : Nat} {F : Nat → Prop} {d : Dk} {a ca b cb n : Nat} {V : Value} {ends : Bool} {lf : Int}
theorem PD.row (h : PD w g F d a ca b cb n V ends lf) (h0 : 0 < d.waits.length) : ∃ gv cv, V = .slice (some ⟨gv, 0, none⟩) d.waits.length cv ∧ gv ≠ a ∧ gv ≠ b ∧ gv ≠ g ∧ gv < w.heap.size ∧ d.waits.length ≤ cv ∧ cv ≤ 9223372036854775807 ∧
    (∀ i (hi : i < d.waits.length), w.cell? ⟨gv, i * 257, none⟩ = some (.int .i64 ((d.waits[i]).1 : Int)) ∧ ∀ j, j < 256 → w.cell? ⟨gv, i * 257 + 1 + j, none⟩ = (cells (d.waits[i]).2)[j]?) := by
  obtain ⟨n1, n2, n3, n4, n5⟩ := h.ne
  have hw := h.wait
  obtain ⟨c, rfl⟩ : ∃ c, c = V := ⟨_, rfl⟩
  rcases h.wait.2 with ⟨_, h1⟩ | ⟨k, cap, cur, rfl, h2, h3, h4, h5, h6, h7⟩
  · omega
  · refine ⟨k, cap, rfl, fun e => n4 (by simp [Value.ownBlock, e]), fun e => n5 (by simp [Value.ownBlock, e]), fun e => n3 (by simp [Value.ownBlock, e]), Blk.lt (t := 69) h3, h4, h5, fun i hi => ?_⟩
    have hx : ∀ x ∈ d.waits, x.2.length = 256 := fun x hx => (h.good.fit.2 x hx).2
    have hc := World.ownsRow.cells hw (g := k) rfl
    have ea : ∀ j, (⟨k, 0, none⟩ : Addr).add j = ⟨k, j, none⟩ := fun j => by unfold Addr.add; split <;> simp_all
    have hl := waitCells_length d.waits hx
    have hat : ∀ j, j < 257 → w.cell? ⟨k, i * 257 + j, none⟩ = (Value.int .i64 ((d.waits[i]).1 : Int) :: cells (d.waits[i]).2)[j]? := fun j hj => by
      have h8 := waitCells_get d.waits hx i hi j hj
      have hlt : i * 257 + j < (waitCells d.waits).length := by rw [hl]; omega
      have h9 := hc (i * 257 + j) _ (List.getElem?_eq_getElem hlt)
      rw [ea] at h9
      rw [h9, ← h8, List.getElem?_eq_getElem hlt]
    refine ⟨by first | (simp; done) | simpa using hat 0 (by omega), fun j hj => ?_⟩
    have := hat (1 + j) (by omega)
    rw [show i * 257 + 1 + j = i * 257 + (1 + j) by omega, this, show 1 + j = j + 1 by omega, List.getElem?_cons_succ]
end
theorem flush_end {w1 wr : World} {g : Nat} {F : Nat → Prop} {d : Dk} {a ca b cb n : Nat} {V : Value} {ends : Bool} {lf : Int} (h : PD w1 g F d a ca b cb n V ends lf) (ht : Turns w1 wr (fun k => k = a) (fun k => k = a)) (hA : Arr wr a (Dk.laid d.safe d.waits).flatten) :
    PD (wr.setCell ⟨g, 2, none⟩ (.slice none 0 0)) g F { d with safe := Dk.laid d.safe d.waits, waits := [] } a ca b cb n (.slice none 0 0) ends lf ∧ Turns w1 (wr.setCell ⟨g, 2, none⟩ (.slice none 0 0)) F F := by
  obtain ⟨n1, n2, n3, n4, n5⟩ := h.ne
  have hs : (Dk.laid d.safe d.waits).length = d.safe.length := Dk.laid_length _ _
  have t2 : Turns w1 (wr.setCell ⟨g, 2, none⟩ (.slice none 0 0)) F F := (ht.wide (E := F) (E' := F) (fun k hk => by rw [hk]; exact h.fa) (fun k hk => .inl hk)).trans (Turns.set_ h.fg 2 _)
  have b1 : Blk wr g 65 (diskCells a ca b cb n V ends lf d) := h.blk.turns ht n1
  refine ⟨⟨b1.set_ 2 (.slice none 0 0), by rw [hs]; exact h.size, h.capa, h.capb, hA.set_far (fun e => n1 e.symm) _, ?_, World.ownsRow_nil _ _ _ _, h.ab, h.fg, h.fa, h.fb, fun k hk => by simp [Value.ownBlock] at hk, fun k hk => Nat.lt_of_lt_of_le (h.flt k hk) t2.size,
    ⟨⟨Dk.laid_fit _ _ h.good.fit.1 (fun x hx => (h.good.fit.2 x hx).2), fun x hx => by cases hx⟩, by rw [hs]; exact h.good.few, by rw [hs]; exact h.good.many, h.good.left⟩, h.ends_, h.left_⟩, t2⟩
  rw [Dk.image_calm _ rfl, show ({ d with safe := Dk.laid d.safe d.waits, waits := [] } : Dk).safe = d.nows from Dk.laid_nows d, ← Dk.image_nows]
  exact (h.last.turns ht (fun e => h.ab e.symm)).set_far (fun e => n2 e.symm) _
theorem flush_in {w : World} {g : Nat} {F : Nat → Prop} {d : Dk} (h0 : PDisk w g F d) (ho : d.off = false) (hl : d.load ≤ 100000) (e1 : Dk) (hq : d.deed = (e1, true)) :
    Calls Try.prog 47 #[.pointer (some ⟨g, 0, none⟩)] w fun e w' => e = .returned (.int .i64 0) ∧ Deeds { e1 with safe := Dk.laid e1.safe e1.waits, waits := [], flushes := e1.flushes + 1 } F w w' g := by
  have z0 := fun w' => Try.dIsNil g w'
  have c3 : w.cell? ⟨g, 3, none⟩ = some (.bool false) := by
    obtain ⟨a, ca, b, cb, n, V, ends, lf, h⟩ := h0
    rw [← ho]; exact h.c3
  have HFa : Hid (Calls Try.prog 63 #[.pointer (some ⟨g, 0, none⟩)] w fun e w' => e = .returned (.bool false) ∧ Deeds e1 F w w' g) := by
    have := falls_any h0 ho
    rwa [hq] at this
  have HQ := Lib.hid hq
  have HL : Hid (e1.load ≤ 100000) := by
    have : d.deed.1.load ≤ 100000 := by
      unfold Dk.deed
      split
      · exact hl
      · split
        · exact hl
        · exact hl
    rwa [hq] at this
  clear hq hl h0 ho
  go_enter Try.func47, Try.ntmps47
  go_wp2_with (first
    | (go_at_call 63; (with_reducible refine HFa.out.mono ?_); rintro e w1 ⟨rfl, hP1, hT1⟩; obtain ⟨a, ca, b, cb, n, V, ends, lf, hP⟩ := hP1; obtain ⟨A, c, rfl, hc1, hc2⟩ := hP.vform; have k2 := hP.c2; have HP := Lib.hid hP; have HT := Lib.hid hT1; obtain ⟨m, hm⟩ : ∃ m, m = e1.waits.length := ⟨_, rfl⟩; rw [← hm] at k2 hc1; have Hm := Lib.hid hm; clear hP hT1 hm))
  go_loopw [20] (fun x wr => ∃ i : Nat, i ≤ m ∧ x = .int .i64 (i : Int) ∧ Hid (Turns w1 wr (fun k => k = a) (fun k => k = a)) ∧ Hid (Arr wr a (Dk.laid e1.safe (e1.waits.take i)).flatten)) (fun x _ => m - (intOf x).toNat)
  case atStart => exact ⟨0, by omega, rfl, Turns.refl _ _, by show Arr _ _ _; rw [List.take_zero]; exact HP.out.safe⟩
  case round =>
    obtain ⟨i, hi, rfl, HT2, HA⟩ := hrel
    have HPr : Hid (∀ k, k ≠ a → ∀ j, k < w1.heap.size → wr.cell? ⟨k, j, none⟩ = w1.cell? ⟨k, j, none⟩) := fun k hk j hlt => HT2.out.cell (p := ⟨k, j, none⟩) hlt hk
    have r2 : wr.cell? ⟨g, 2, none⟩ = some (.slice A m c) := by rw [HPr.out g HP.out.ne.1 2 (HP.out.flt g HP.out.fg)]; exact k2
    have r0 : wr.cell? ⟨g, 0, none⟩ = some (.slice (some ⟨a, 0, none⟩) n ca) := by rw [HPr.out g HP.out.ne.1 0 (HP.out.flt g HP.out.fg)]; exact HP.out.c0
    by_cases hlt : i < m
    · obtain ⟨gv, cv, hV, hva, hvb, hvg, hvl, hm1, hm2, hcell⟩ := HP.out.row (by have := Hm.out; omega)
      obtain ⟨rfl, -, rfl⟩ : A = some ⟨gv, 0, none⟩ ∧ m = e1.waits.length ∧ c = cv := by
        have := Hm.out
        simp only [Value.slice.injEq] at hV
        exact ⟨hV.1, this, hV.2.2⟩
      have hi2 : i < e1.waits.length := by have := Hm.out; omega
      obtain ⟨hcn, hcb⟩ := hcell i hi2
      obtain ⟨x, hx⟩ : ∃ x, x = e1.waits[i] := ⟨_, rfl⟩
      rw [← hx] at hcn hcb
      rw [← HPr.out gv hva _ hvl] at hcn
      have u0 : (0 : Int) ≤ (i : Int) := by omega
      have u1 : (i : Int) < (m : Int) := by omega
      have HA' := HA.out
      obtain ⟨sp, hsp⟩ := HA'
      have hfit := HP.out.good.fit
      have hxm : x ∈ e1.waits := by rw [hx]; exact List.getElem_mem hi2
      obtain ⟨hx1, hx2⟩ := hfit.2 x hxm
      obtain ⟨xn, xb⟩ := x
      simp only at hx1 hx2 hcn hcb
      have hsz := HP.out.size
      have hmany := HP.out.good.many
      have hlf : ∀ b ∈ Dk.laid e1.safe (e1.waits.take i), b.length = 256 := Dk.laid_fit _ _ hfit.1 (fun y hy => (hfit.2 y (List.mem_of_mem_take hy)).2)
      have hll : (Dk.laid e1.safe (e1.waits.take i)).length = e1.safe.length := Dk.laid_length _ _
      have hlen : (Dk.laid e1.safe (e1.waits.take i)).flatten.length = 256 * e1.safe.length := by rw [Dk.flatten_length hlf, hll]
      have HNew : Hid (∀ w7, Hid (Blk w7 a 5 (splice (cells (Dk.laid e1.safe (e1.waits.take i)).flatten ++ sp) (256 * xn) (cells xb)).toArray) → Arr w7 a (Dk.laid e1.safe (e1.waits.take (i + 1))).flatten) := by
        intro w7 h7
        have h7 := h7.out
        rw [splice_cells _ _ _ _ (by rw [hlen]; omega), ← Dk.flatten_set _ _ _ hlf (by rw [hll]; exact hx1) hx2] at h7
        refine ⟨sp, ?_⟩
        rw [List.take_succ_eq_append_getElem hi2, ← hx, Dk.laid_snoc]
        exact h7
      have Hcp : Hid ((cells xb).length = 256) := by show _ = _; rw [cells_length]; exact hx2
      have Hft : Hid (256 * xn + (cells xb).length ≤ (cells (Dk.laid e1.safe (e1.waits.take i)).flatten ++ sp).length) := by show _ ≤ _; rw [List.length_append, cells_length, cells_length, hlen]; omega
      obtain ⟨cur, hcur⟩ : ∃ cur, cur = cells (Dk.laid e1.safe (e1.waits.take i)).flatten ++ sp := ⟨_, rfl⟩
      rw [← hcur] at hsp HNew Hft
      have Hsp := Lib.hid hsp
      have HBl := fun W => Lib.hid (block_of a n ca xn W (by omega) (by omega) HP.out.capa.1 HP.out.capa.2)
      have HBl2 := Lib.hid HBl
      have HS := fun W => sa_all gv (i * 257 + 1) W
      have Hsrc : Hid (∀ j v, (cells xb)[j]? = some v → wr.cell? ((⟨gv, i * 257 + 1, none⟩ : Addr).add j) = some v) := by
        intro j v hv
        have hj : j < 256 := by have := (List.getElem?_eq_some_iff.1 hv).1; rw [Hcp.out] at this; exact this
        rw [add_at, HPr.out gv hva _ hvl, hcb j hj]; exact hv
      have Hg : Hid (∀ w7, Hid (Turns wr.drew w7 (fun k => k = a) (fun k => k = a)) → (w7.cell? ⟨g, 0, none⟩ = some (.slice (some ⟨a, 0, none⟩) n ca) ∧ w7.cell? ⟨gv, i * 257, none⟩ = some (.int .i64 (xn : Int))) ∧ Turns w1 w7 (fun k => k = a) (fun k => k = a)) := by
        intro w7 h7
        have hs := HT2.out.size
        refine ⟨⟨?_, ?_⟩, HT2.out.trans (Turns.of_drew h7.out)⟩
        · rw [h7.out.cell (p := ⟨g, 0, none⟩) (by have := HP.out.flt g HP.out.fg; show g < wr.heap.size; omega) HP.out.ne.1]; exact r0
        · rw [h7.out.cell (p := ⟨gv, i * 257, none⟩) (show gv < wr.heap.size by omega) hva]; exact hcn
      clear hV hcell hcb HA hsp hfit hxm hx1 hx2 hsz hmany hlf hll hlen hcur HBl
      go_wp2
      go_region_held_law (fun w' => w'.cell? ⟨g, 0, none⟩ = some (.slice (some ⟨a, 0, none⟩) n ca) ∧ w'.cell? ⟨gv, i * 257, none⟩ = some (.int .i64 (xn : Int)))
        (first | exact ⟨r0, hcn⟩ | exact (Hg.out w7 ht7).1)
        (first
          | (refine step_copy_foot rfl (.tmp 37) (.tmp 41) _ _ rfl 5 Try.underlying38 Try.size5 (some ⟨a, 256 * xn, none⟩) (some ⟨gv, i * 257 + 1, none⟩) 256 (ca - 256 * xn) 256 256 rfl rfl a (256 * xn) cur 5 Hsp.out.drew (cells xb) Hcp.out (fun _ => ⟨rfl, _, rfl, Hsrc.out⟩) Hft.out (cells_one _) ?_; intro w7 h7 ht7)
          | (go_at_call 48; (with_reducible refine (HBl2.out _).out.mono ?_); rintro e w6 ⟨rfl, rfl⟩))
      have HT7 := (Hg.out w7 ht7).2
      have HA7 := HNew.out w7 h7
      go_wp2
      refine ⟨⟨i + 1, by omega, by go_num, HT7, HA7⟩, ?_⟩
      simp [intOf]; omega
    · have him : i = m := by omega
      have hi2 : e1.waits.take i = e1.waits := by rw [him, Hm.out]; exact List.take_length
      have HA' := HA.out
      rw [hi2] at HA'
      have d0 : decide ((i : Int) < (m : Int)) = false := decide_eq_false (by omega)
      have d1 : decide (i < m) = false := decide_eq_false hlt
      have fz2 : wr.frozen? ⟨g, 2, none⟩ = false := by rw [HT2.out.frozen (p := ⟨g, 2, none⟩) (HP.out.flt g HP.out.fg) HP.out.ne.1]; exact HP.out.fz 2
      have HEnd := Lib.hid (flush_end HP.out HT2.out HA')
      have HAd : Hid (Calls Try.prog 50 #[.pointer (some ⟨g, 8, none⟩), .int .i64 1] (wr.setCell ⟨g, 2, none⟩ (.slice none 0 0)) fun e w' => w' = (wr.setCell ⟨g, 2, none⟩ (.slice none 0 0)).setCell ⟨g, 8, none⟩ (.int .i64 ((e1.flushes + 1 : Nat) : Int)) ∧ e = .returned (.int .i64 ((e1.flushes + 1 : Nat) : Int))) :=
        aadd_any g 8 e1.flushes _ (by have := HL.out; unfold Dk.load at this; omega) HEnd.out.1.c8 (HEnd.out.1.fz 8)
      clear him hi2 HA' HA hlt hi
      go_wp2_with (first
        | (go_at_call 50; (with_reducible refine HAd.out.mono ?_); rintro e w9 ⟨rfl, rfl⟩))
      go_ret
      exact ⟨rfl, ⟨_, _, _, _, _, _, _, _, HEnd.out.1.count8⟩, (HT.out.trans HEnd.out.2).trans (Turns.set_ HP.out.fg 8 _)⟩
theorem Dk.flush_yes {d e1 : Dk} (ho : d.off = false) (hq : d.deed = (e1, true)) : d.flush = ({ e1 with safe := Dk.laid e1.safe e1.waits, waits := [], flushes := e1.flushes + 1 }, 0) := by
  unfold Dk.flush; rw [ho, hq]; rfl
theorem Dk.flush_no {d e1 : Dk} (ho : d.off = false) (hq : d.deed = (e1, false)) : d.flush = (e1, 9) := by
  unfold Dk.flush; rw [ho, hq]; rfl
theorem flush_any {w : World} {g : Nat} {F : Nat → Prop} {d : Dk} (h : PDisk w g F d) (hl : d.load ≤ 100000) :
    Calls Try.prog 47 #[.pointer (some ⟨g, 0, none⟩)] w fun e w' => e = .returned (.int .i64 d.flush.2) ∧ Deeds d.flush.1 F w w' g := by
  have z0 := fun w' => Try.dIsNil g w'
  cases ho : d.off with
  | true =>
    have HV : Hid (d.flush = (d, 9)) := by show _ = _; unfold Dk.flush; rw [if_pos ho]
    have c3 : w.cell? ⟨g, 3, none⟩ = some (.bool true) := by
      obtain ⟨a, ca, b, cb, n, V, ends, lf, h⟩ := h
      rw [← ho]; exact h.c3
    clear ho hl
    go_enter Try.func47, Try.ntmps47
    go_wp2
    go_ret
    rw [HV.out]
    exact ⟨rfl, h, Turns.refl _ _⟩
  | false =>
    obtain ⟨e1, q, hq⟩ : ∃ e1 q, d.deed = (e1, q) := ⟨_, _, rfl⟩
    cases q with
    | true =>
      rw [Dk.flush_yes ho hq]
      exact flush_in h ho hl e1 hq
    | false =>
      rw [Dk.flush_no ho hq]
      have c3 : w.cell? ⟨g, 3, none⟩ = some (.bool false) := by
        obtain ⟨a, ca, b, cb, n, V, ends, lf, h⟩ := h
        rw [← ho]; exact h.c3
      have HFa : Hid (Calls Try.prog 63 #[.pointer (some ⟨g, 0, none⟩)] w fun e w' => e = .returned (.bool true) ∧ Deeds e1 F w w' g) := by
        have := falls_any h ho
        rwa [hq] at this
      clear ho hq hl h
      go_enter Try.func47, Try.ntmps47
      go_wp2_with (go_at_call 63; (with_reducible refine HFa.out.mono ?_); rintro e w1 ⟨rfl, hP1⟩)
      go_ret
      exact ⟨rfl, hP1⟩
end
section
set_option maxRecDepth 100000
namespace Wal.Ex
open Wal
def noLg : Lg := ⟨0, 0, 0, [], true⟩
def o1 := openW (Dk.blank 16) 2 3 1 1
def l1 : Lg := o1.2.1.getD noLg
def a2 := appendW o1.1 l1 (List.replicate 49 0)
def a3 := appendW a2.1 a2.2.1 [97, 98]
def a4 := appendW a3.1 a3.2.1 []
def a5 := appendW a4.1 a4.2.1 (List.replicate 480 0)
def o7 := openW a5.1 2 3 1 5
def l7 : Lg := o7.2.1.getD noLg
def d8 := (o7.1.stop 0).1
def a9 := appendW d8 l7 [120]
def a10 := appendW a9.1 a9.2.1 [120]
def d12 := a10.1.crash []
def o13 := openW d12 2 3 2 6
def l13 : Lg := o13.2.1.getD noLg
def o14 := openW o13.1 2 15 1 1
def S : List (List UInt8) := [List.replicate 49 0, [97, 98]]
theorem four {x : Dk × Option Lg × List (List UInt8) × Int} {R : List (List UInt8)} {c : Int} (h1 : x.2.1.isSome = true) (h2 : x.2.2.1 = R) (h3 : x.2.2.2 = c) : x = (x.1, some (x.2.1.getD noLg), R, c) := by
  obtain ⟨a, b, e, f⟩ := x
  cases b with
  | none => cases h1
  | some b => subst h2 h3; rfl
theorem fourN {x : Dk × Option Lg × List (List UInt8) × Int} {R : List (List UInt8)} {c : Int} (h1 : x.2.1.isSome = false) (h2 : x.2.2.1 = R) (h3 : x.2.2.2 = c) : x = (x.1, none, R, c) := by
  obtain ⟨a, b, e, f⟩ := x
  cases b with
  | none => subst h2 h3; rfl
  | some b => cases h1
theorem three {x : Dk × Lg × Int} {c : Int} (h : x.2.2 = c) : x = (x.1, x.2.1, c) := by
  obtain ⟨a, b, e⟩ := x
  subst h
  rfl
theorem fits {l : Lg} (h : decide (l.b.length ≤ 64 * l.n) && (decide (l.b.length % 64 = 0) && (decide (l.n ≤ 1000) && (decide (l.n % 4 = 0) && (decide (l.frm + l.n / 4 ≤ 16) && (decide (1 ≤ l.epoch) && decide (l.epoch ≤ 2147483647)))))) = true) : l.fit 16 := by
  simp only [Bool.and_eq_true, decide_eq_true_eq] at h
  exact ⟨h.1, h.2.1, h.2.2.1, h.2.2.2.1, h.2.2.2.2.1, h.2.2.2.2.2⟩
abbrev Ok (d : Dk) (l : Lg) : Prop := d.load ≤ 80000 ∧ d.safe.length = 16 ∧ l.fit 16
theorem ok1 : Ok o1.1 l1 := ⟨by decide +kernel, by decide +kernel, fits (by decide +kernel)⟩
theorem ok2 : Ok a2.1 a2.2.1 := ⟨by decide +kernel, by decide +kernel, fits (by decide +kernel)⟩
theorem ok3 : Ok a3.1 a3.2.1 := ⟨by decide +kernel, by decide +kernel, fits (by decide +kernel)⟩
theorem ok4 : Ok a4.1 a4.2.1 := ⟨by decide +kernel, by decide +kernel, fits (by decide +kernel)⟩
theorem ok5 : Ok a5.1 a5.2.1 := ⟨by decide +kernel, by decide +kernel, fits (by decide +kernel)⟩
theorem ok8 : Ok d8 l7 := ⟨by decide +kernel, by decide +kernel, fits (by decide +kernel)⟩
theorem ok9 : Ok a9.1 a9.2.1 := ⟨by decide +kernel, by decide +kernel, fits (by decide +kernel)⟩
theorem ok10 : Ok a10.1 a10.2.1 := ⟨by decide +kernel, by decide +kernel, fits (by decide +kernel)⟩
theorem ok12 : d12.load ≤ 80000 ∧ d12.safe.length = 16 := ⟨by decide +kernel, by decide +kernel⟩
theorem ok13 : o13.1.load ≤ 80000 ∧ o13.1.safe.length = 16 := ⟨by decide +kernel, by decide +kernel⟩
theorem e1 : openW (Dk.blank 16) 2 3 1 1 = (o1.1, some l1, [], 0) := four (x := o1) (by decide +kernel) (by decide +kernel) (by decide +kernel)
theorem e2 : appendW o1.1 l1 (List.replicate 49 0) = (a2.1, a2.2.1, 0) := three (x := a2) (by decide +kernel)
theorem e3 : appendW a2.1 a2.2.1 [97, 98] = (a3.1, a3.2.1, 0) := three (x := a3) (by decide +kernel)
theorem e4 : appendW a3.1 a3.2.1 [] = (a4.1, a4.2.1, 1) := three (x := a4) (by decide +kernel)
theorem u4 : used a4.2.1 = 3 := by decide +kernel
theorem e5 : appendW a4.1 a4.2.1 (List.replicate 480 0) = (a5.1, a5.2.1, 2) := three (x := a5) (by decide +kernel)
theorem e6 : (turnW a5.2.1 0).2 = 1 := by decide +kernel
theorem e7 : openW a5.1 2 3 1 5 = (o7.1, some l7, S, 0) := four (x := o7) (by decide +kernel) (by decide +kernel) (by decide +kernel)
theorem u7 : used l7 = 3 ∧ l7.n = 12 := by decide +kernel
theorem e9 : appendW d8 l7 [120] = (a9.1, a9.2.1, 9) := three (x := a9) (by decide +kernel)
theorem e10 : appendW a9.1 a9.2.1 [120] = (a10.1, a10.2.1, 8) := three (x := a10) (by decide +kernel)
theorem e11 : (resetW a10.2.1 9).2 = 8 := by decide +kernel
theorem g11 : (resetW a10.2.1 9).1.gone = true := by decide +kernel
theorem e13 : openW d12 2 3 2 6 = (o13.1, some l13, [], 0) := four (x := o13) (by decide +kernel) (by decide +kernel) (by decide +kernel)
theorem e14 : openW o13.1 2 15 1 1 = (o14.1, none, [], 1) := fourN (x := o14) (by decide +kernel) (by decide +kernel) (by decide +kernel)
end Wal.Ex
end
end Go.Proofs.Ytghenhacndaelaa
