/- Lemmas under the proofs of this place: WalAwake. No statement is proved here. -/
import Derived.Test.YtghenhacndaelaaGreatBs29
import Derived.Test.YtghenhacndaelaaGreatBu17
import Derived.Test.YtghenhacndaelaaGreatBu12
import Derived.Test.YtghenhacndaelaaGreatBu18
import Derived.Test.YtghenhacndaelaaGreatBu03
import Derived.Lib.SmallJoins
set_option linter.unusedSimpArgs false
set_option linter.unusedVariables false
set_option maxRecDepth 100000
set_option maxHeartbeats 16000000
namespace Go.Proofs.YtghenhacndaelaaGreat
open Go.ChangeShapes Go.WideShapes Go.ChangeAt Go.RowKit
open Wal Wal.Ex
theorem rb_newf13 (w : World) (L : List UInt8) (fz : Nat × Nat) : RB (w.alloc (.cells (cells L).toArray 5 fz)) (w.alloc (.cells (cells L).toArray 5 fz)).heap.size (some ⟨w.heap.size, 0, none⟩) L := (rb_newm w L fz).more (by simp)
theorem f7 : l7.fit 16 := ok8.2.2
theorem awS_at {w W : World} {g lg : Nat} {d : Dk} {l : Lg} {A : Option Addr} (h : AwS w W g lg d l A S) : ∃ b off, A = some ⟨b, off, none⟩ ∧ ∃ dA dc, RB W W.heap.size dA [97, 98] ∧ W.cell? ⟨b, off + 1, none⟩ = some (.slice dA 2 dc) := by
 obtain ⟨F, E, h1, h2⟩ := h
 obtain ⟨b, off, e, _, _, hc⟩ := h2 (by decide)
 obtain ⟨dA, dc, k1, k2, k3⟩ := hc 1 (by decide)
 exact ⟨b, off, e, dA, dc, k1, k3⟩
theorem awake13_any (w : World) : Calls Tryz.prog 6 #[] w fun e w' => e = .returned (.bool true) ∧ Below w.heap.size w w' := by
 have ii : ∀ z : Int, 0 ≤ z → z ≤ 100 → InI z := fun z h1 h2 => by unfold InI; omega
 have HB : Hid (∀ W, Calls Tryz.prog 7 #[.int .i64 16] W fun e w' => ∃ g F, e = .returned (.tuple #[.pointer (some ⟨g, 0, none⟩), .int .i64 0]) ∧ GivesDisk (Dk.blank 16) W w' g F) := fun W => blank_any 16 W (by omega) (by omega)
 have HO1 : Hid (∀ W g F, Has w W g F (Dk.blank 16) → Calls Tryz.prog 15 #[.pointer (some ⟨g, 0, none⟩), .int .i64 2, .int .i64 3, .int .i64 1, .int .i64 1] W fun e w' => ∃ (lg : Nat) (A : Option Addr) (c : Nat), e = .returned (.tuple #[.pointer (some ⟨lg, 0, none⟩), .slice A 0 c, .int .i64 0]) ∧ Hid (AwS w w' g lg o1.1 l1 A []) ∧ Hid (CapN A 0 c)) := fun W g F h => by
  refine (wopen_any h.disk 2 3 1 1 ⟨⟨ii 2 (by omega) (by omega), ii 3 (by omega) (by omega)⟩, ii 1 (by omega) (by omega), ii 1 (by omega) (by omega)⟩ (by decide +kernel) (by decide +kernel)).mono fun e w' hp => aw_opened h hp e1
 have HO7 : Hid (∀ W g lg l A, AwS w W g lg a5.1 l A [] → Calls Tryz.prog 15 #[.pointer (some ⟨g, 0, none⟩), .int .i64 2, .int .i64 3, .int .i64 1, .int .i64 5] W fun e w' => ∃ (lg : Nat) (A : Option Addr) (c : Nat), e = .returned (.tuple #[.pointer (some ⟨lg, 0, none⟩), .slice A 2 c, .int .i64 0]) ∧ Hid (AwS w w' g lg o7.1 l7 A S) ∧ Hid (CapN A 2 c)) := fun W g lg l A h => by
  obtain ⟨F, E, h1, h2⟩ := h
  refine (wopen_any h1.has.disk 2 3 1 5 ⟨⟨ii 2 (by omega) (by omega), ii 3 (by omega) (by omega)⟩, ii 1 (by omega) (by omega), ii 5 (by omega) (by omega)⟩ ok5.1 (by rw [ok5.2.1]; omega)).mono fun e w' hp => aw_opened h1.has hp e7
 have HAp : Hid (∀ W W2 g lg d l A R, AwS w W g lg d l A R → Below W.heap.size W W2 → Wal.Ex.Ok d l → ∀ (t : List UInt8) (n : Nat) (T : Option Addr) (cT : Nat) d' l' code, n = t.length → n ≤ 50000 → RB W2 W2.heap.size T t → (∀ ad, T = some ad → W.heap.size ≤ ad.block) → n ≤ cT → cT ≤ 50000 → appendW d l t = (d', l', code) → Calls Tryz.prog 16 #[.pointer (some ⟨lg, 0, none⟩), .slice T n cT] W2 fun e w' => e = .returned (.int .i64 code) ∧ Hid (AwS w w' g lg d' l' A R)) := fun W W2 g lg d l A R h hb ho t n T cT d' l' code hn hl hr hT hc hcm he => aw_append h hb t n T cT hn hl hr hT hc (by omega) ho.1 ho.2.2 ho.2.1 he
 have HU : Hid (∀ W g lg d l A R (u : Nat), AwS w W g lg d l A R → l.fit 16 → used l = u → Calls Tryz.prog 17 #[.pointer (some ⟨lg, 0, none⟩)] W fun e w' => e = .returned (.int .i64 (u : Int)) ∧ W = w') := fun W g lg d l A R u h hf hu => by
  obtain ⟨F, E, h1, h2⟩ := h
  have := wused_any h1.log hf
  rwa [hu] at this
 have HRm : Hid (∀ W g lg d l A R (u m : Nat), AwS w W g lg d l A R → l.fit 16 → used l = u → l.n = m + u → Calls Tryz.prog 19 #[.pointer (some ⟨lg, 0, none⟩)] W fun e w' => e = .returned (.int .i64 (m : Int)) ∧ Hid (AwS w w' g lg d l A R)) := fun W g lg d l A R u m h hf hu hm => by
  have hAw := h
  obtain ⟨F, E, h1, h2⟩ := h
  refine (wroom_any h1.log hf).mono fun e w' hh => ⟨?_, by obtain ⟨nq, rfl⟩ := hh.2; exact hAw.up (drewN_room _ _)⟩
  rw [hh.1, hu, hm]
  congr 3
  omega
 have HDd : Hid (∀ W g lg d l A R, AwS w W g lg d l A R → l.gone = true → Calls Tryz.prog 22 #[.pointer (some ⟨lg, 0, none⟩)] W fun e w' => e = .returned (.bool true) ∧ W = w') := fun W g lg d l A R h hf => by
  obtain ⟨F, E, h1, h2⟩ := h
  have := wdead_any h1.log
  rwa [hf] at this
 have HT : Hid (∀ W g lg d l A R code, AwS w W g lg d l A R → l.fit 16 → (turnW l 0).2 = code → Calls Tryz.prog 18 #[.pointer (some ⟨lg, 0, none⟩), .int .i64 0] W fun e w' => e = .returned (.int .i64 code) ∧ Hid (AwS w w' g lg d (turnW l 0).1 A R)) := fun W g lg d l A R code h hf hc => by
  obtain ⟨F, E, h1, h2⟩ := h
  refine (wturn_any h1.log 0 (ii 0 (by omega) (by omega)) hf).mono fun e w' hh => ⟨by rw [hh.1, hc], ?_⟩
  obtain ⟨E', h3, h4⟩ := hh.2
  have h5 := h1.logs h3 h4
  exact ⟨F, E', h5.1, h2.keep h5.2⟩
 have HRs : Hid (∀ W g lg d l A R code, AwS w W g lg d l A R → l.fit 16 → (resetW l 9).2 = code → Calls Tryz.prog 21 #[.pointer (some ⟨lg, 0, none⟩), .int .i64 9] W fun e w' => e = .returned (.int .i64 code) ∧ Hid (AwS w w' g lg d (resetW l 9).1 A R)) := fun W g lg d l A R code h hf hc => by
  obtain ⟨F, E, h1, h2⟩ := h
  refine (wreset_any h1.log 9 (ii 9 (by omega) (by omega)) hf).mono fun e w' hh => ⟨by rw [hh.1, hc], ?_⟩
  obtain ⟨E', h3, h4⟩ := hh.2
  have h5 := h1.logs h3 h4
  exact ⟨F, E', h5.1, h2.keep h5.2⟩
 have HSt : Hid (∀ W g lg l A R, AwS w W g lg o7.1 l A R → Calls Tryz.prog 20 #[.pointer (some ⟨g, 0, none⟩), .int .i64 0] W fun e w' => ∃ z, e = .returned (.int .i64 z) ∧ Hid (AwS w w' g lg d8 l A R)) := fun W g lg l A R h => by
  obtain ⟨F, E, h1, h2⟩ := h
  refine (stop_any h1.has.disk 0 (ii 0 (by omega) (by omega))).mono fun e w' hh => ⟨_, hh.1, ?_⟩
  have h5 := h1.disk hh.2
  exact ⟨F, E, h5.1, h2.keep h5.2⟩
 have HCr : Hid (∀ W g lg l A R, AwS w W g lg a10.1 l A R → Calls Tryz.prog 23 #[.pointer (some ⟨g, 0, none⟩), .slice none 0 0] W fun e w' => e = .returned (.tuple #[]) ∧ Hid (AwS w w' g lg d12 l A R)) := fun W g lg l A R h => by
  obtain ⟨F, E, h1, h2⟩ := h
  refine (crash_any h1.has.disk [] none 0 0 rfl (fun h => absurd h (by simp)) (fun h => absurd h (by simp))).mono fun e w' hh => ⟨hh.1, ?_⟩
  have h5 := h1.disk hh.2
  exact ⟨F, E, h5.1, h2.keep h5.2⟩
 have HO13 : Hid (∀ W g lg l A R, AwS w W g lg d12 l A R → Calls Tryz.prog 15 #[.pointer (some ⟨g, 0, none⟩), .int .i64 2, .int .i64 3, .int .i64 2, .int .i64 6] W fun e w' => ∃ (lg2 : Nat) (A2 : Option Addr) (c : Nat), e = .returned (.tuple #[.pointer (some ⟨lg2, 0, none⟩), .slice A2 0 c, .int .i64 0]) ∧ Hid (AwS w w' g lg o13.1 l A R)) := fun W g lg l A R h => by
  obtain ⟨F, E, h1, h2⟩ := h
  refine (wopen_any h1.has.disk 2 3 2 6 ⟨⟨ii 2 (by omega) (by omega), ii 3 (by omega) (by omega)⟩, ii 2 (by omega) (by omega), ii 6 (by omega) (by omega)⟩ ok12.1 (by rw [ok12.2]; omega)).mono fun e w' hp => ?_
  rw [e13] at hp
  obtain ⟨hd, lg2, E2, A2, c, _, _, _, _, h6⟩ := hp
  have h5 := h1.disk hd
  exact ⟨lg2, A2, c, h6, F, E, h5.1, h2.keep h5.2⟩
 have HO14 : Hid (∀ W g lg l A R, AwS w W g lg o13.1 l A R → Calls Tryz.prog 15 #[.pointer (some ⟨g, 0, none⟩), .int .i64 2, .int .i64 15, .int .i64 1, .int .i64 1] W fun e w' => e = .returned (.tuple #[.pointer none, .slice none 0 0, .int .i64 1]) ∧ Hid (AwS w w' g lg o14.1 l A R)) := fun W g lg l A R h => by
  obtain ⟨F, E, h1, h2⟩ := h
  refine (wopen_any h1.has.disk 2 15 1 1 ⟨⟨ii 2 (by omega) (by omega), ii 15 (by omega) (by omega)⟩, ii 1 (by omega) (by omega), ii 1 (by omega) (by omega)⟩ ok13.1 (by rw [ok13.2]; omega)).mono fun e w' hp => ?_
  rw [e14] at hp
  have h5 := h1.disk hp.1
  exact ⟨hp.2, F, E, h5.1, h2.keep h5.2⟩
 have HON : Hid (∀ W g lg d l A R, AwS w W g lg d l A R → Calls Tryz.prog 15 #[.pointer none, .int .i64 2, .int .i64 1, .int .i64 1, .int .i64 1] W fun e w' => e = .returned (.tuple #[.pointer none, .slice none 0 0, .int .i64 8]) ∧ Hid (AwS w w' g lg d l A R)) := fun W g lg d l A R h =>
  (wopen_none W 2 1 1 1 ⟨⟨ii 2 (by omega) (by omega), ii 1 (by omega) (by omega)⟩, ii 1 (by omega) (by omega), ii 1 (by omega) (by omega)⟩).mono fun e w' hh => ⟨hh.1, h.up hh.2⟩
 have n0 := fun w' => Tryz.notFalse w'
 have n1 := fun w' => Tryz.notTrue w'
 have q0 : Hid (∀ W : World, RB W W.heap.size none ([] : List UInt8)) := fun W => ⟨rfl, fun h => absurd h (by simp)⟩
 have hcv : ∀ (W : World) (g n c : Nat) (C : Array Value), g = W.heap.size → (convert 39 39 (.slice (some ⟨g, 0, none⟩) n c)).run Tryz.prog (W.alloc (.cells C 5)) = .ok (.slice (some ⟨g, 0, none⟩) n c) (W.alloc (.cells C 5 (C.size, C.size + 1))) := fun W g n c C h => Joins.run_convert_bytes_const_at W 39 5 C n c g h Tryz.underlying39 Tryz.underlying5
 clear ii
 go_enter Tryz.func6, Tryz.ntmps6
 go_wp2_with (first
  | (go_at_call 7; (with_reducible refine (HB.out _).mono ?_); rintro e w1 ⟨g, F0, rfl, hG⟩; have hA1 := Lib.hid (Has.gives (Below.refl _ _) hG))
  | (go_at_call 15; (with_reducible refine (HO1.out _ _ _ hA1.out).mono ?_); rintro e w2 ⟨lg, A0, c0, rfl, hA2, _⟩; clear hA1)
  | (refine make_zeros rfl 49 (.const (.int .i64 49)) (.const (.int .i64 49)) rfl rfl rfl (by omega) ?_; intro w3 r3 b3 s3)
  | (go_at_call 16; (with_reducible refine (HAp.out _ _ _ _ _ _ _ _ hA2.out b3 ok1 (List.replicate 49 0) 49 _ _ _ _ _ (by simp) (by omega) r3 (fun ad e => by injection e with e; rw [← e]; exact Nat.le_refl _) (by omega) (by omega) e2).mono ?_); rintro e w4 ⟨rfl, hA4⟩; clear hA2; have b4 : Below w4.heap.size w4 (w4.alloc (.cells #[.int .u8 97, .int .u8 98] 5 (2, 3))) := (Below.refl _ _).alloc (Nat.le_refl _) _; have r4 : RB (w4.alloc (.cells #[.int .u8 97, .int .u8 98] 5 (2, 3))) (w4.alloc (.cells #[.int .u8 97, .int .u8 98] 5 (2, 3))).heap.size (some ⟨w4.heap.size, 0, none⟩) [97, 98] := rb_newf13 w4 [97, 98] (2, 3))
  | (go_at_call 16; (with_reducible refine (HAp.out _ _ _ _ _ _ _ _ hA4.out b4 ok2 [97, 98] 2 _ _ _ _ _ rfl (by omega) r4 (fun ad e => by injection e with e; rw [← e]; exact Nat.le_refl _) (by omega) (by omega) e3).mono ?_); rintro e w5 ⟨rfl, hA5⟩; clear hA4)
  | (go_at_call 16; (with_reducible refine (HAp.out _ _ _ _ _ _ _ _ hA5.out (Below.refl _ _) ok3 [] 0 none 0 _ _ _ rfl (by omega) (q0.out _) (fun ad e => nomatch e) (by omega) (by omega) e4).mono ?_); rintro e w6 ⟨rfl, hA6⟩; clear hA5)
  | (go_at_call 17; (with_reducible refine (HU.out _ _ _ _ _ _ _ 3 hA6.out ok4.2.2 u4).mono ?_); rintro e w7 ⟨rfl, rfl⟩)
  | (refine make_zeros rfl 480 (.const (.int .i64 480)) (.const (.int .i64 480)) rfl rfl rfl (by omega) ?_; intro w8 r8 b8 s8)
  | (go_at_call 16; (with_reducible refine (HAp.out _ _ _ _ _ _ _ _ hA6.out b8 ok4 (List.replicate 480 0) 480 _ _ _ _ _ (by simp) (by omega) r8 (fun ad e => by injection e with e; rw [← e]; exact Nat.le_refl _) (by omega) (by omega) e5).mono ?_); rintro e w9 ⟨rfl, hA9⟩; clear hA6)
  | (go_at_call 18; (with_reducible refine (HT.out _ _ _ _ _ _ _ 1 hA9.out ok5.2.2 e6).mono ?_); rintro e w10 ⟨rfl, hA10⟩)
  | (go_at_call 15; (with_reducible refine (HO7.out _ _ _ _ _ hA10.out).mono ?_); rintro e w11 ⟨lg2, A2, c2, rfl, hA11, _⟩; clear hA9 hA10)
  | (go_at_call 17; (with_reducible refine (HU.out _ _ _ _ _ _ _ 3 hA11.out f7 u7.1).mono ?_); rintro e w11u ⟨rfl, rfl⟩)
  | (go_at_call 19; (with_reducible refine (HRm.out _ _ _ _ _ _ _ 3 9 hA11.out f7 u7.1 u7.2).mono ?_); rintro e w11r ⟨rfl, hB11⟩; clear hA11; have hA11 := hB11; clear hB11)
  | (go_at_call 20; (with_reducible refine (HSt.out _ _ _ _ _ _ hA11.out).mono ?_); rintro e w12 ⟨z, rfl, hA12⟩; clear hA11; have b12 : Below w12.heap.size w12 (w12.alloc (.cells #[.int .u8 120] 5 (1, 2))) := (Below.refl _ _).alloc (Nat.le_refl _) _; have r12 : RB (w12.alloc (.cells #[.int .u8 120] 5 (1, 2))) (w12.alloc (.cells #[.int .u8 120] 5 (1, 2))).heap.size (some ⟨w12.heap.size, 0, none⟩) [120] := rb_newf13 w12 [120] (1, 2))
  | (go_at_call 16; (with_reducible refine (HAp.out _ _ _ _ _ _ _ _ hA13.out b13 ok9 [120] 1 _ _ _ _ _ rfl (by omega) r13 (fun ad e => by injection e with e; rw [← e]; exact Nat.le_refl _) (by omega) (by omega) e10).mono ?_); rintro e w14 ⟨rfl, hA14⟩; clear hA13)
  | (go_at_call 16; (with_reducible refine (HAp.out _ _ _ _ _ _ _ _ hA12.out b12 ok8 [120] 1 _ _ _ _ _ rfl (by omega) r12 (fun ad e => by injection e with e; rw [← e]; exact Nat.le_refl _) (by omega) (by omega) e9).mono ?_); rintro e w13 ⟨rfl, hA13⟩; clear hA12; have b13 : Below w13.heap.size w13 (w13.alloc (.cells #[.int .u8 120] 5 (1, 2))) := (Below.refl _ _).alloc (Nat.le_refl _) _; have r13 : RB (w13.alloc (.cells #[.int .u8 120] 5 (1, 2))) (w13.alloc (.cells #[.int .u8 120] 5 (1, 2))).heap.size (some ⟨w13.heap.size, 0, none⟩) [120] := rb_newf13 w13 [120] (1, 2))
  | (go_at_call 21; (with_reducible refine (HRs.out _ _ _ _ _ _ _ 8 hA14.out ok10.2.2 e11).mono ?_); rintro e w15 ⟨rfl, hA15⟩; clear hA14)
  | (go_at_call 22; (with_reducible refine (HDd.out _ _ _ _ _ _ _ hA15.out g11).mono ?_); rintro e w15d ⟨rfl, rfl⟩)
  | (go_at_call 23; (with_reducible refine (HCr.out _ _ _ _ _ _ hA15.out).mono ?_); rintro e w16 ⟨rfl, hA16⟩; clear hA15)
  | (go_at_call 15; (with_reducible refine (HO13.out _ _ _ _ _ _ hA16.out).mono ?_); rintro e w17 ⟨lg3, A3, c3, rfl, hA17⟩; clear hA16)
  | (go_at_call 15; (with_reducible refine (HO14.out _ _ _ _ _ _ hA17.out).mono ?_); rintro e w18 ⟨rfl, hA18⟩; clear hA17)
  | (go_at_call 15; (with_reducible refine (HON.out _ _ _ _ _ _ _ hA18.out).mono ?_); rintro e w19 ⟨rfl, hA19⟩; clear hA18; obtain ⟨b, off, rfl, dA, dc, rS, cS⟩ := awS_at hA19.out; have sS := aw_str rS 2 dc rfl))
 go_ret
 exact ⟨rfl, hA19.out.below⟩
end Go.Proofs.YtghenhacndaelaaGreat
