/- Lemmas under the proofs of this place: DiskRLoad. No statement is proved here. -/
import Derived.Test.YtghenhacndaelaaGreatBu09
import Derived.Test.YtghenhacndaelaaGreatBu22
set_option linter.unusedVariables false
set_option maxRecDepth 100000
set_option maxHeartbeats 16000000
namespace Go.Proofs.YtghenhacndaelaaGreat
open Go.RowKit
theorem Tryz.refBuild (w : World) : Sem.run Tryz.prog (Instr.build 75 #[(2, .int .i64 (-1))]) w = .ok (.agg #[.slice none 0 0, .slice none 0 0, .int .i64 (-1), .bool false, .int .i64 0, .int .i64 0, .int .i64 0]) w := by
 kernel_rfl
theorem rload_any (L : List UInt8) (A : Option Addr) (n c : Nat) (w : World) (hr : RB w w.heap.size A L) (hn : n = L.length) (hc : n ≤ c) (hcm : c ≤ 9223372036854775807) (hm : Dk.mayL L) :
  Calls Tryz.prog 14 #[.slice A n c] w fun e w' => ∃ g G B, e = .returned (.tuple #[.pointer (some ⟨g, 0, none⟩), .int .i64 0]) ∧ GivesRef (Dk.ofImage L) w w' g G B := by
 obtain ⟨h1, h2, h3⟩ := hm
 rw [← hn] at h1 h2 h3
 obtain ⟨m, hmm⟩ : ∃ m, m = n / 256 := ⟨_, rfl⟩
 have hnm : n = 256 * m := by omega
 obtain ⟨bA, oA, rfl, hbA, hcA⟩ := hr.at_ (by omega)
 have HF : Hid (∀ W, Calls Tryz.prog 26 #[.int .i64 (m : Int)] W fun e w' => e = .returned (.bool true) ∧ W = w') := fun W => by
  have := may_any (m : Int) W
  rwa [decide_eq_true (by omega)] at this
 have n0 := fun w' => Tryz.notTrue w'
 have n1 := fun w' => Tryz.notFalse w'
 have u0 : (0 : Int) ≤ (n : Int) := by omega
 have u1 : (n : Int) ≤ 1000000 := by omega
 have e1 : (n : Int) % 256 = 0 := by omega
 have e2 : (n : Int).tmod 256 = 0 := by rw [Int.tmod_eq_emod_of_nonneg u0]; exact e1
 have e3 : (n : Int) / 256 = (m : Int) := by omega
 have e4 : (n : Int).tdiv 256 = (m : Int) := by rw [Int.tdiv_eq_ediv_of_nonneg u0]; exact e3
 have nb := fun w' => Tryz.refBuild w'
 obtain ⟨i0, hi0, hz0, hz1, hz2⟩ := info_parts Tryz.hdrInfo
 obtain ⟨i1, hi1, hy0, hy1, hy2⟩ := info_parts Tryz.info5
 have HR := Lib.hid hr
 have HN := Lib.hid hn
 have HNM := Lib.hid hnm
 have HC := Lib.hid hc
 have HM : Hid (16 ≤ m ∧ m ≤ 1024) := ⟨by omega, by omega⟩
 have hm1024 : m ≤ 1024 := HM.out.2
 clear hr hn hnm hc hmm h1 h2 h3 hbA hcA
 go_enter Tryz.func14, Tryz.ntmps14
 go_wp2_with (first
  | (go_at_call 26; (with_reducible refine (HF.out _).mono ?_); rintro e w1 ⟨rfl, rfl⟩))
 have HL0 : LD w (w.alloc (.cells #[.slice none 0 0, .slice none 0 0, .int .i64 (-1), .bool false, .int .i64 0, .int .i64 0, .int .i64 0] 75)) w.heap.size (fun _ => False) (.slice none 0 0) [] [] :=
  ⟨Blk.new _ _ _, World.ownsRow_nil _ _ _ _, Hdrs.none_, Nat.le_refl _, fun k hk => by simp [Value.ownBlock] at hk, fun k hk => hk.elim, (Below.refl _ _).alloc (Nat.le_refl _) _⟩
 generalize (w.alloc (.cells #[.slice none 0 0, .slice none 0 0, .int .i64 (-1), .bool false, .int .i64 0, .int .i64 0, .int .i64 0] 75)) = W0 at HL0 ⊢
 obtain ⟨g, hg⟩ : ∃ g, g = w.heap.size := ⟨_, rfl⟩
 rw [← hg] at HL0 ⊢
 clear hg e1 e2 e3 e4 u0 u1
 go_loopw [6] (fun x wr => ∃ j : Nat, j ≤ m ∧ x = .int .i64 (j : Int) ∧ ∃ B SV hs, Hid (LD w wr g B SV hs ((Dk.chunks m L).take j))) (fun x _ => m - (intOf x).toNat)
 case atStart => exact ⟨0, by omega, rfl, _, _, _, HL0⟩
 case round =>
  clear HL0
  obtain ⟨j, hj, rfl, B, SV, hs, HD⟩ := hrel
  have u0 : (0 : Int) ≤ (j : Int) := by omega
  by_cases hlt : j < m
  ·have u1 : (j : Int) < (m : Int) := by omega
   have hmm := HM.out
   obtain ⟨q0, hq0⟩ : ∃ q0, q0 = 256 * j := ⟨_, rfl⟩
   have y1 : (256 : Int) * (j : Int) = (q0 : Int) := by omega
   have y2 : IntKind.i64.wrap (q0 : Int) = (q0 : Int) := IntWalk.i64_in _ (by omega)
   have y3 : IntKind.i64.wrap ((q0 : Int) + 256) = (q0 : Int) + 256 := IntWalk.i64_in _ (by omega)
   have y4 : (0 : Int) ≤ (q0 : Int) := by omega
   have hnm := HNM.out
   have hnc := HC.out
   have HS1 := fun W => sl_both bA oA n c q0 (q0 + 256) (q0 : Int) ((q0 : Int) + 256) rfl (by omega) (by omega) (by omega) (by omega) W
   rw [show q0 + 256 - q0 = 256 by omega] at HS1
   have hck : (Dk.chunks m L)[j]'(by rw [Dk.chunks_length]; exact hlt) = (L.drop q0).take 256 := by rw [Dk.chunks_get m L j hlt, hq0]
   obtain ⟨X, hX⟩ : ∃ X, X = (L.drop q0).take 256 := ⟨_, rfl⟩
   have hXl : X.length = 256 := by rw [hX, List.length_take, List.length_drop, ← HN.out]; omega
   have htk : Hid ((Dk.chunks m L).take (j + 1) = (Dk.chunks m L).take j ++ [X]) := by
    show _ = _
    rw [List.take_succ_eq_append_getElem (by rw [Dk.chunks_length]; exact hlt), hck, ← hX]
   have hlen : Hid (((Dk.chunks m L).take j).length = j) := by show _ = _; rw [List.length_take, Dk.chunks_length]; omega
   have HRd : Hid (∀ W, Below wr.heap.size wr W → Reads (W.alloc (.cells #[] 5)) w.heap.size 1 (some ⟨bA, oA + q0, none⟩) 256 (cells X)) := fun W hb => by
    have h1 := (HR.out.below HD.out.below).below (hb.mono HD.out.below.size)
    have h2 := rb_cut h1 (k := q0) (c := L.length + 1) (by rw [← HN.out]; omega) (by omega)
    rw [if_neg (by rw [← HN.out]; omega)] at h2
    simp only [Option.map_some, Nat.mul_one, add_at] at h2
    have h3 := (rb_take h2 256 (by rw [List.length_drop, ← HN.out]; omega)).alloc (Nat.le_trans HD.out.below.size hb.size) (.cells #[] 5)
    rw [← hX] at h3
    unfold RB at h3
    rw [hXl] at h3
    exact h3
   have HX := Lib.hid hXl
   have hown := HD.out.own
   rw [hlen.out] at hown
   have HO := Lib.hid hown
   clear hnm hnc hq0 hck hX hXl hown hmm
   go_wp2
   have hbW : Below wr.heap.size wr wr.drew := (Below.refl _ _).drew
   have c1 : wr.drew.cell? ⟨g, 0, none⟩ = some SV := HD.out.c0
   refine region_T (fun W => W.cell? ⟨g, 0, none⟩ = some SV) (fun k => decide (16 ≤ k)) (by kernel_rfl) ?_
   generalize wr.drew = W at hbW c1 ⊢
   have c1a : (W.alloc (.cells #[] 5)).cell? ⟨g, 0, none⟩ = some SV := (HD.out.under (hbW.alloc hbW.size _)).c0
   refine any_asT (a' := ⟨#[.slice (some ⟨bA, oA, none⟩) n c, undef, .pointer none, .int .i64 0, .int .i64 (m : Int), .pointer (some ⟨g, 0, none⟩), .int .i64 (j : Int), .slice (some ⟨bA, oA, none⟩) n c, .int .i64 (n : Int), .int .i64 (m : Int), .slice (some ⟨bA, oA, none⟩) n c, .int .i64 (n : Int), .int .i64 0, .bool false, .bool false, .int .i64 (m : Int), .bool true, .bool false, .bool false, .agg #[.slice none 0 0, .slice none 0 0, .int .i64 (-1), .bool false, .int .i64 0, .int .i64 0, .int .i64 0], .pointer (some ⟨g, 0, none⟩), .int .i64 (j : Int), .int .i64 (m : Int), .bool true, u24, u25, u26, u27, u28, u29, u30, u31, u32, u33, u34, u35, u36, u37, u38, u39, u40, u41, u42, u43, undef], []⟩) (by kernel_rfl) (listed' := #[false, false, false, false, false, false, false, false, false, false, false, false, false, false, false, false, false, false, false]) (by kernel_rfl) ?_
   refine any_take (i := 0) (.pointer (some ⟨g, 0, none⟩)) rfl (by kernel_rfl) (by kernel_rfl) (by kernel_rfl) rfl (by kernel_rfl) (by kernel_rfl) (fun W hW => by kernel_rfl) c1 (listed' := #[true, false, false, false, false, false, false, false, false, false, false, false, false, false, false, false, false, false, false]) (a' := ⟨#[.slice (some ⟨bA, oA, none⟩) n c, undef, .pointer none, .int .i64 0, .int .i64 (m : Int), .pointer (some ⟨g, 0, none⟩), .int .i64 (j : Int), .slice (some ⟨bA, oA, none⟩) n c, .int .i64 (n : Int), .int .i64 (m : Int), .slice (some ⟨bA, oA, none⟩) n c, .int .i64 (n : Int), .int .i64 0, .bool false, .bool false, .int .i64 (m : Int), .bool true, .bool false, .bool false, .agg #[.slice none 0 0, .slice none 0 0, .int .i64 (-1), .bool false, .int .i64 0, .int .i64 0, .int .i64 0], .pointer (some ⟨g, 0, none⟩), .int .i64 (j : Int), .int .i64 (m : Int), .bool true, u24, u25, .pointer (some ⟨g, 0, none⟩), u27, u28, u29, u30, u31, u32, u33, u34, u35, u36, u37, u38, u39, u40, u41, u42, u43, undef], []⟩) (by kernel_rfl) (by kernel_rfl) (fun _ _ _ h => h) ?_
   refine any_take (i := 1) (.pointer (some ⟨g, 0, none⟩)) rfl (by kernel_rfl) (by kernel_rfl) (by kernel_rfl) rfl (by kernel_rfl) (by kernel_rfl) (fun W hW => by kernel_rfl) c1 (listed' := #[true, true, false, false, false, false, false, false, false, false, false, false, false, false, false, false, false, false, false]) (a' := ⟨#[.slice (some ⟨bA, oA, none⟩) n c, undef, .pointer none, .int .i64 0, .int .i64 (m : Int), .pointer (some ⟨g, 0, none⟩), .int .i64 (j : Int), .slice (some ⟨bA, oA, none⟩) n c, .int .i64 (n : Int), .int .i64 (m : Int), .slice (some ⟨bA, oA, none⟩) n c, .int .i64 (n : Int), .int .i64 0, .bool false, .bool false, .int .i64 (m : Int), .bool true, .bool false, .bool false, .agg #[.slice none 0 0, .slice none 0 0, .int .i64 (-1), .bool false, .int .i64 0, .int .i64 0, .int .i64 0], .pointer (some ⟨g, 0, none⟩), .int .i64 (j : Int), .int .i64 (m : Int), .bool true, u24, u25, .pointer (some ⟨g, 0, none⟩), .pointer (some ⟨g, 0, none⟩), u28, u29, u30, u31, u32, u33, u34, u35, u36, u37, u38, u39, u40, u41, u42, u43, undef], []⟩) (by kernel_rfl) (by kernel_rfl) (fun _ _ _ h => h) ?_
   refine any_take (i := 2) (.pointer (some ⟨g, 0, none⟩)) rfl (by kernel_rfl) (by kernel_rfl) (by kernel_rfl) rfl (by kernel_rfl) (by kernel_rfl) (fun W hW => by kernel_rfl) c1 (listed' := #[true, true, true, false, false, false, false, false, false, false, false, false, false, false, false, false, false, false, false]) (a' := ⟨#[.slice (some ⟨bA, oA, none⟩) n c, undef, .pointer none, .int .i64 0, .int .i64 (m : Int), .pointer (some ⟨g, 0, none⟩), .int .i64 (j : Int), .slice (some ⟨bA, oA, none⟩) n c, .int .i64 (n : Int), .int .i64 (m : Int), .slice (some ⟨bA, oA, none⟩) n c, .int .i64 (n : Int), .int .i64 0, .bool false, .bool false, .int .i64 (m : Int), .bool true, .bool false, .bool false, .agg #[.slice none 0 0, .slice none 0 0, .int .i64 (-1), .bool false, .int .i64 0, .int .i64 0, .int .i64 0], .pointer (some ⟨g, 0, none⟩), .int .i64 (j : Int), .int .i64 (m : Int), .bool true, u24, u25, .pointer (some ⟨g, 0, none⟩), .pointer (some ⟨g, 0, none⟩), .pointer (some ⟨g, 0, none⟩), u29, u30, u31, u32, u33, u34, u35, u36, u37, u38, u39, u40, u41, u42, u43, undef], []⟩) (by kernel_rfl) (by kernel_rfl) (fun _ _ _ h => h) ?_
   refine any_take (i := 3) (.pointer (some ⟨g, 0, none⟩)) rfl (by kernel_rfl) (by kernel_rfl) (by kernel_rfl) rfl (by kernel_rfl) (by kernel_rfl) (fun W hW => by kernel_rfl) c1 (listed' := #[true, true, true, true, false, false, false, false, false, false, false, false, false, false, false, false, false, false, false]) (a' := ⟨#[.slice (some ⟨bA, oA, none⟩) n c, undef, .pointer none, .int .i64 0, .int .i64 (m : Int), .pointer (some ⟨g, 0, none⟩), .int .i64 (j : Int), .slice (some ⟨bA, oA, none⟩) n c, .int .i64 (n : Int), .int .i64 (m : Int), .slice (some ⟨bA, oA, none⟩) n c, .int .i64 (n : Int), .int .i64 0, .bool false, .bool false, .int .i64 (m : Int), .bool true, .bool false, .bool false, .agg #[.slice none 0 0, .slice none 0 0, .int .i64 (-1), .bool false, .int .i64 0, .int .i64 0, .int .i64 0], .pointer (some ⟨g, 0, none⟩), .int .i64 (j : Int), .int .i64 (m : Int), .bool true, u24, u25, .pointer (some ⟨g, 0, none⟩), .pointer (some ⟨g, 0, none⟩), .pointer (some ⟨g, 0, none⟩), .pointer (some ⟨g, 0, none⟩), u30, u31, u32, u33, u34, u35, u36, u37, u38, u39, u40, u41, u42, u43, undef], []⟩) (by kernel_rfl) (by kernel_rfl) (fun _ _ _ h => h) ?_
   refine any_take (i := 4) (SV) rfl (by kernel_rfl) (by kernel_rfl) (by kernel_rfl) rfl (by kernel_rfl) (by kernel_rfl) (fun W hW => cell_run 53 (.tmp 29) ⟨g, 0, none⟩ SV _ (by kernel_rfl) (by kernel_rfl) hW Tryz.underlying53 rfl (by kernel_rfl)) c1 (listed' := #[true, true, true, true, true, false, false, false, false, false, false, false, false, false, false, false, false, false, false]) (a' := ⟨#[.slice (some ⟨bA, oA, none⟩) n c, undef, .pointer none, .int .i64 0, .int .i64 (m : Int), .pointer (some ⟨g, 0, none⟩), .int .i64 (j : Int), .slice (some ⟨bA, oA, none⟩) n c, .int .i64 (n : Int), .int .i64 (m : Int), .slice (some ⟨bA, oA, none⟩) n c, .int .i64 (n : Int), .int .i64 0, .bool false, .bool false, .int .i64 (m : Int), .bool true, .bool false, .bool false, .agg #[.slice none 0 0, .slice none 0 0, .int .i64 (-1), .bool false, .int .i64 0, .int .i64 0, .int .i64 0], .pointer (some ⟨g, 0, none⟩), .int .i64 (j : Int), .int .i64 (m : Int), .bool true, u24, u25, .pointer (some ⟨g, 0, none⟩), .pointer (some ⟨g, 0, none⟩), .pointer (some ⟨g, 0, none⟩), .pointer (some ⟨g, 0, none⟩), SV, u31, u32, u33, u34, u35, u36, u37, u38, u39, u40, u41, u42, u43, undef], []⟩) (by kernel_rfl) (by kernel_rfl) (fun _ _ _ h => h) ?_
   refine any_take (i := 6) (.slice (some ⟨bA, oA, none⟩) n c) rfl (by kernel_rfl) (by kernel_rfl) (by kernel_rfl) rfl (by kernel_rfl) (by kernel_rfl) (fun W hW => by kernel_rfl) c1 (listed' := #[true, true, true, true, true, false, true, false, false, false, false, false, false, false, false, false, false, false, false]) (a' := ⟨#[.slice (some ⟨bA, oA, none⟩) n c, undef, .pointer none, .int .i64 0, .int .i64 (m : Int), .pointer (some ⟨g, 0, none⟩), .int .i64 (j : Int), .slice (some ⟨bA, oA, none⟩) n c, .int .i64 (n : Int), .int .i64 (m : Int), .slice (some ⟨bA, oA, none⟩) n c, .int .i64 (n : Int), .int .i64 0, .bool false, .bool false, .int .i64 (m : Int), .bool true, .bool false, .bool false, .agg #[.slice none 0 0, .slice none 0 0, .int .i64 (-1), .bool false, .int .i64 0, .int .i64 0, .int .i64 0], .pointer (some ⟨g, 0, none⟩), .int .i64 (j : Int), .int .i64 (m : Int), .bool true, u24, u25, .pointer (some ⟨g, 0, none⟩), .pointer (some ⟨g, 0, none⟩), .pointer (some ⟨g, 0, none⟩), .pointer (some ⟨g, 0, none⟩), SV, u31, .slice (some ⟨bA, oA, none⟩) n c, u33, u34, u35, u36, u37, u38, u39, u40, u41, u42, u43, undef], []⟩) (by kernel_rfl) (by kernel_rfl) (fun _ _ _ h => h) ?_
   refine any_take (i := 7) (.int .i64 (j : Int)) rfl (by kernel_rfl) (by kernel_rfl) (by kernel_rfl) rfl (by kernel_rfl) (by kernel_rfl) (fun W hW => by kernel_rfl) c1 (listed' := #[true, true, true, true, true, false, true, true, false, false, false, false, false, false, false, false, false, false, false]) (a' := ⟨#[.slice (some ⟨bA, oA, none⟩) n c, undef, .pointer none, .int .i64 0, .int .i64 (m : Int), .pointer (some ⟨g, 0, none⟩), .int .i64 (j : Int), .slice (some ⟨bA, oA, none⟩) n c, .int .i64 (n : Int), .int .i64 (m : Int), .slice (some ⟨bA, oA, none⟩) n c, .int .i64 (n : Int), .int .i64 0, .bool false, .bool false, .int .i64 (m : Int), .bool true, .bool false, .bool false, .agg #[.slice none 0 0, .slice none 0 0, .int .i64 (-1), .bool false, .int .i64 0, .int .i64 0, .int .i64 0], .pointer (some ⟨g, 0, none⟩), .int .i64 (j : Int), .int .i64 (m : Int), .bool true, u24, u25, .pointer (some ⟨g, 0, none⟩), .pointer (some ⟨g, 0, none⟩), .pointer (some ⟨g, 0, none⟩), .pointer (some ⟨g, 0, none⟩), SV, u31, .slice (some ⟨bA, oA, none⟩) n c, .int .i64 (j : Int), u34, u35, u36, u37, u38, u39, u40, u41, u42, u43, undef], []⟩) (by kernel_rfl) (by kernel_rfl) (fun _ _ _ h => h) ?_
   refine any_take (i := 8) (.int .i64 (q0 : Int)) rfl (by kernel_rfl) (by kernel_rfl) (by kernel_rfl) rfl (by kernel_rfl) (by kernel_rfl) (fun W hW => by go_simp) c1 (listed' := #[true, true, true, true, true, false, true, true, true, false, false, false, false, false, false, false, false, false, false]) (a' := ⟨#[.slice (some ⟨bA, oA, none⟩) n c, undef, .pointer none, .int .i64 0, .int .i64 (m : Int), .pointer (some ⟨g, 0, none⟩), .int .i64 (j : Int), .slice (some ⟨bA, oA, none⟩) n c, .int .i64 (n : Int), .int .i64 (m : Int), .slice (some ⟨bA, oA, none⟩) n c, .int .i64 (n : Int), .int .i64 0, .bool false, .bool false, .int .i64 (m : Int), .bool true, .bool false, .bool false, .agg #[.slice none 0 0, .slice none 0 0, .int .i64 (-1), .bool false, .int .i64 0, .int .i64 0, .int .i64 0], .pointer (some ⟨g, 0, none⟩), .int .i64 (j : Int), .int .i64 (m : Int), .bool true, u24, u25, .pointer (some ⟨g, 0, none⟩), .pointer (some ⟨g, 0, none⟩), .pointer (some ⟨g, 0, none⟩), .pointer (some ⟨g, 0, none⟩), SV, u31, .slice (some ⟨bA, oA, none⟩) n c, .int .i64 (j : Int), .int .i64 (q0 : Int), u35, u36, u37, u38, u39, u40, u41, u42, u43, undef], []⟩) (by kernel_rfl) (by kernel_rfl) (fun _ _ _ h => h) ?_
   refine any_take (i := 9) (.int .i64 (j : Int)) rfl (by kernel_rfl) (by kernel_rfl) (by kernel_rfl) rfl (by kernel_rfl) (by kernel_rfl) (fun W hW => by kernel_rfl) c1 (listed' := #[true, true, true, true, true, false, true, true, true, true, false, false, false, false, false, false, false, false, false]) (a' := ⟨#[.slice (some ⟨bA, oA, none⟩) n c, undef, .pointer none, .int .i64 0, .int .i64 (m : Int), .pointer (some ⟨g, 0, none⟩), .int .i64 (j : Int), .slice (some ⟨bA, oA, none⟩) n c, .int .i64 (n : Int), .int .i64 (m : Int), .slice (some ⟨bA, oA, none⟩) n c, .int .i64 (n : Int), .int .i64 0, .bool false, .bool false, .int .i64 (m : Int), .bool true, .bool false, .bool false, .agg #[.slice none 0 0, .slice none 0 0, .int .i64 (-1), .bool false, .int .i64 0, .int .i64 0, .int .i64 0], .pointer (some ⟨g, 0, none⟩), .int .i64 (j : Int), .int .i64 (m : Int), .bool true, u24, u25, .pointer (some ⟨g, 0, none⟩), .pointer (some ⟨g, 0, none⟩), .pointer (some ⟨g, 0, none⟩), .pointer (some ⟨g, 0, none⟩), SV, u31, .slice (some ⟨bA, oA, none⟩) n c, .int .i64 (j : Int), .int .i64 (q0 : Int), .int .i64 (j : Int), u36, u37, u38, u39, u40, u41, u42, u43, undef], []⟩) (by kernel_rfl) (by kernel_rfl) (fun _ _ _ h => h) ?_
   refine any_take (i := 10) (.int .i64 (q0 : Int)) rfl (by kernel_rfl) (by kernel_rfl) (by kernel_rfl) rfl (by kernel_rfl) (by kernel_rfl) (fun W hW => by go_simp) c1 (listed' := #[true, true, true, true, true, false, true, true, true, true, true, false, false, false, false, false, false, false, false]) (a' := ⟨#[.slice (some ⟨bA, oA, none⟩) n c, undef, .pointer none, .int .i64 0, .int .i64 (m : Int), .pointer (some ⟨g, 0, none⟩), .int .i64 (j : Int), .slice (some ⟨bA, oA, none⟩) n c, .int .i64 (n : Int), .int .i64 (m : Int), .slice (some ⟨bA, oA, none⟩) n c, .int .i64 (n : Int), .int .i64 0, .bool false, .bool false, .int .i64 (m : Int), .bool true, .bool false, .bool false, .agg #[.slice none 0 0, .slice none 0 0, .int .i64 (-1), .bool false, .int .i64 0, .int .i64 0, .int .i64 0], .pointer (some ⟨g, 0, none⟩), .int .i64 (j : Int), .int .i64 (m : Int), .bool true, u24, u25, .pointer (some ⟨g, 0, none⟩), .pointer (some ⟨g, 0, none⟩), .pointer (some ⟨g, 0, none⟩), .pointer (some ⟨g, 0, none⟩), SV, u31, .slice (some ⟨bA, oA, none⟩) n c, .int .i64 (j : Int), .int .i64 (q0 : Int), .int .i64 (j : Int), .int .i64 (q0 : Int), u37, u38, u39, u40, u41, u42, u43, undef], []⟩) (by kernel_rfl) (by kernel_rfl) (fun _ _ _ h => h) ?_
   refine any_take (i := 11) (.int .i64 ((q0 : Int) + 256)) rfl (by kernel_rfl) (by kernel_rfl) (by kernel_rfl) rfl (by kernel_rfl) (by kernel_rfl) (fun W hW => by go_simp) c1 (listed' := #[true, true, true, true, true, false, true, true, true, true, true, true, false, false, false, false, false, false, false]) (a' := ⟨#[.slice (some ⟨bA, oA, none⟩) n c, undef, .pointer none, .int .i64 0, .int .i64 (m : Int), .pointer (some ⟨g, 0, none⟩), .int .i64 (j : Int), .slice (some ⟨bA, oA, none⟩) n c, .int .i64 (n : Int), .int .i64 (m : Int), .slice (some ⟨bA, oA, none⟩) n c, .int .i64 (n : Int), .int .i64 0, .bool false, .bool false, .int .i64 (m : Int), .bool true, .bool false, .bool false, .agg #[.slice none 0 0, .slice none 0 0, .int .i64 (-1), .bool false, .int .i64 0, .int .i64 0, .int .i64 0], .pointer (some ⟨g, 0, none⟩), .int .i64 (j : Int), .int .i64 (m : Int), .bool true, u24, u25, .pointer (some ⟨g, 0, none⟩), .pointer (some ⟨g, 0, none⟩), .pointer (some ⟨g, 0, none⟩), .pointer (some ⟨g, 0, none⟩), SV, u31, .slice (some ⟨bA, oA, none⟩) n c, .int .i64 (j : Int), .int .i64 (q0 : Int), .int .i64 (j : Int), .int .i64 (q0 : Int), .int .i64 ((q0 : Int) + 256), u38, u39, u40, u41, u42, u43, undef], []⟩) (by kernel_rfl) (by kernel_rfl) (fun _ _ _ h => h) ?_
   refine any_take (i := 12) (.slice (some ⟨bA, oA + q0, none⟩) 256 (c - q0)) rfl (by kernel_rfl) (by kernel_rfl) (by kernel_rfl) rfl (by kernel_rfl) (by kernel_rfl) (fun W hW => slice_run 39 (.tmp 32) (some (.tmp 34)) (some (.tmp 37)) rfl _ _ _ _ (by kernel_rfl) (by kernel_rfl) (by kernel_rfl) (HS1 W)) c1 (listed' := #[true, true, true, true, true, false, true, true, true, true, true, true, true, false, false, false, false, false, false]) (a' := ⟨#[.slice (some ⟨bA, oA, none⟩) n c, undef, .pointer none, .int .i64 0, .int .i64 (m : Int), .pointer (some ⟨g, 0, none⟩), .int .i64 (j : Int), .slice (some ⟨bA, oA, none⟩) n c, .int .i64 (n : Int), .int .i64 (m : Int), .slice (some ⟨bA, oA, none⟩) n c, .int .i64 (n : Int), .int .i64 0, .bool false, .bool false, .int .i64 (m : Int), .bool true, .bool false, .bool false, .agg #[.slice none 0 0, .slice none 0 0, .int .i64 (-1), .bool false, .int .i64 0, .int .i64 0, .int .i64 0], .pointer (some ⟨g, 0, none⟩), .int .i64 (j : Int), .int .i64 (m : Int), .bool true, u24, u25, .pointer (some ⟨g, 0, none⟩), .pointer (some ⟨g, 0, none⟩), .pointer (some ⟨g, 0, none⟩), .pointer (some ⟨g, 0, none⟩), SV, u31, .slice (some ⟨bA, oA, none⟩) n c, .int .i64 (j : Int), .int .i64 (q0 : Int), .int .i64 (j : Int), .int .i64 (q0 : Int), .int .i64 ((q0 : Int) + 256), .slice (some ⟨bA, oA + q0, none⟩) 256 (c - q0), u39, u40, u41, u42, u43, undef], []⟩) (by kernel_rfl) (by kernel_rfl) (fun _ _ _ h => h) ?_
   refine any_comes (i := 5) (by kernel_rfl) (op_value (a' := ⟨#[.slice (some ⟨bA, oA, none⟩) n c, undef, .pointer none, .int .i64 0, .int .i64 (m : Int), .pointer (some ⟨g, 0, none⟩), .int .i64 (j : Int), .slice (some ⟨bA, oA, none⟩) n c, .int .i64 (n : Int), .int .i64 (m : Int), .slice (some ⟨bA, oA, none⟩) n c, .int .i64 (n : Int), .int .i64 0, .bool false, .bool false, .int .i64 (m : Int), .bool true, .bool false, .bool false, .agg #[.slice none 0 0, .slice none 0 0, .int .i64 (-1), .bool false, .int .i64 0, .int .i64 0, .int .i64 0], .pointer (some ⟨g, 0, none⟩), .int .i64 (j : Int), .int .i64 (m : Int), .bool true, u24, u25, .pointer (some ⟨g, 0, none⟩), .pointer (some ⟨g, 0, none⟩), .pointer (some ⟨g, 0, none⟩), .pointer (some ⟨g, 0, none⟩), SV, .slice (some ⟨W.heap.size, 0, none⟩) 0 0, .slice (some ⟨bA, oA, none⟩) n c, .int .i64 (j : Int), .int .i64 (q0 : Int), .int .i64 (j : Int), .int .i64 (q0 : Int), .int .i64 ((q0 : Int) + 256), .slice (some ⟨bA, oA + q0, none⟩) 256 (c - q0), u39, u40, u41, u42, u43, undef], []⟩) (.slice (some ⟨W.heap.size, 0, none⟩) 0 0) rfl (by kernel_rfl) (by kernel_rfl) (by kernel_rfl) ⟨c1a, ?_⟩)
   refine any_comes (i := 13) (by kernel_rfl) (op_append rfl (by kernel_rfl) (.tmp 31) (.tmp 38) 39 rfl W.heap.size 5 i1 _ 1 1 Tryz.underlying39 hi1 hy0 hy1 hy2 rfl (by omega) (.slice (some ⟨W.heap.size, 0, none⟩) 0 0) 0 [] (by kernel_rfl) (World.ownsRow_made W #[] 0 (Nat.le_refl _) (by decide) rfl) w.heap.size (some ⟨bA, oA + q0, none⟩) 256 (c - q0) (cells X) (by kernel_rfl) (HRd.out W hbW) (cells_one _) (by unfold maxLen; omega) (by omega) (by simp) ?_)
   intro v1 w1 ho1 hg1 hat1
   obtain ⟨q, cq, rfl, hb1, c1b, hH1, hq1, hq2⟩ := load_new HD.out hbW HX.out ho1 hg1
   refine ⟨c1b, ?_⟩
   refine any_asT (a' := ⟨#[.slice (some ⟨bA, oA, none⟩) n c, undef, .pointer none, .int .i64 0, .int .i64 (m : Int), .pointer (some ⟨g, 0, none⟩), .int .i64 (j : Int), .slice (some ⟨bA, oA, none⟩) n c, .int .i64 (n : Int), .int .i64 (m : Int), .slice (some ⟨bA, oA, none⟩) n c, .int .i64 (n : Int), .int .i64 0, .bool false, .bool false, .int .i64 (m : Int), .bool true, .bool false, .bool false, .agg #[.slice none 0 0, .slice none 0 0, .int .i64 (-1), .bool false, .int .i64 0, .int .i64 0, .int .i64 0], .pointer (some ⟨g, 0, none⟩), .int .i64 (j : Int), .int .i64 (m : Int), .bool true, u24, u25, .pointer (some ⟨g, 0, none⟩), .pointer (some ⟨g, 0, none⟩), .pointer (some ⟨g, 0, none⟩), .pointer (some ⟨g, 0, none⟩), SV, .slice (some ⟨W.heap.size, 0, none⟩) 0 0, .slice (some ⟨bA, oA, none⟩) n c, .int .i64 (j : Int), .int .i64 (q0 : Int), .int .i64 (j : Int), .int .i64 (q0 : Int), .int .i64 ((q0 : Int) + 256), .slice (some ⟨bA, oA + q0, none⟩) 256 (c - q0), .slice (some ⟨q, 0, none⟩) 256 cq, u40, u41, u42, u43, undef], []⟩) (by kernel_rfl) (listed' := #[true, true, true, true, true, true, true, true, true, true, true, true, true, true, false, false, false, false, false]) (by kernel_rfl) ?_
   have c1c : (w1.alloc (.cells #[.slice (some ⟨q, 0, none⟩) 256 cq] 39)).cell? ⟨g, 0, none⟩ = some SV := (HD.out.under (hb1.alloc hb1.size _)).c0
   refine any_comes (i := 14) (by kernel_rfl) (op_value (a' := ⟨#[.slice (some ⟨bA, oA, none⟩) n c, undef, .pointer none, .int .i64 0, .int .i64 (m : Int), .pointer (some ⟨g, 0, none⟩), .int .i64 (j : Int), .slice (some ⟨bA, oA, none⟩) n c, .int .i64 (n : Int), .int .i64 (m : Int), .slice (some ⟨bA, oA, none⟩) n c, .int .i64 (n : Int), .int .i64 0, .bool false, .bool false, .int .i64 (m : Int), .bool true, .bool false, .bool false, .agg #[.slice none 0 0, .slice none 0 0, .int .i64 (-1), .bool false, .int .i64 0, .int .i64 0, .int .i64 0], .pointer (some ⟨g, 0, none⟩), .int .i64 (j : Int), .int .i64 (m : Int), .bool true, u24, u25, .pointer (some ⟨g, 0, none⟩), .pointer (some ⟨g, 0, none⟩), .pointer (some ⟨g, 0, none⟩), .pointer (some ⟨g, 0, none⟩), SV, .slice (some ⟨W.heap.size, 0, none⟩) 0 0, .slice (some ⟨bA, oA, none⟩) n c, .int .i64 (j : Int), .int .i64 (q0 : Int), .int .i64 (j : Int), .int .i64 (q0 : Int), .int .i64 ((q0 : Int) + 256), .slice (some ⟨bA, oA + q0, none⟩) 256 (c - q0), .slice (some ⟨q, 0, none⟩) 256 cq, .slice (some ⟨w1.heap.size, 0, none⟩) 1 1, u41, u42, u43, undef], []⟩) (.slice (some ⟨w1.heap.size, 0, none⟩) 1 1) rfl (by kernel_rfl) (by kernel_rfl) (by kernel_rfl) ⟨c1c, ?_⟩)
   refine any_comes (i := 15) (by kernel_rfl) (op_append rfl (by kernel_rfl) (.tmp 30) (.tmp 40) 53 rfl 0 39 i0 _ 1 24 Tryz.underlying53 hi0 hz0 hz1 hz2 rfl (by omega) SV j hs (by kernel_rfl) (own_turns HO.out (Turns.of_below (hb1.alloc hb1.size _) (fun _ => False)) (fun _ _ h => h)) (w1.heap.size + 1) (some ⟨w1.heap.size, 0, none⟩) 1 1 [.slice (some ⟨q, 0, none⟩) 256 cq] (by kernel_rfl) (one_new w1 _ _) (fun u hu => by simp at hu; rw [hu]; rfl) (by have := HM.out; unfold maxLen; omega) (by have := HM.out; omega) (Nat.zero_le _) ?_)
   intro V' w5 ho5 hg5 hat5
   obtain ⟨gv, cv, hv5, _⟩ := ho5.form (by omega)
   subst hv5
   obtain ⟨c15, f15, hR5⟩ := load_mid HD.out hb1 hH1 hq1 hq2 (by rw [hlen.out]; exact ho5) hg5 hat5
   refine ⟨c15, ?_⟩
   refine any_asT (a' := ⟨#[.slice (some ⟨bA, oA, none⟩) n c, undef, .pointer none, .int .i64 0, .int .i64 (m : Int), .pointer (some ⟨g, 0, none⟩), .int .i64 (j : Int), .slice (some ⟨bA, oA, none⟩) n c, .int .i64 (n : Int), .int .i64 (m : Int), .slice (some ⟨bA, oA, none⟩) n c, .int .i64 (n : Int), .int .i64 0, .bool false, .bool false, .int .i64 (m : Int), .bool true, .bool false, .bool false, .agg #[.slice none 0 0, .slice none 0 0, .int .i64 (-1), .bool false, .int .i64 0, .int .i64 0, .int .i64 0], .pointer (some ⟨g, 0, none⟩), .int .i64 (j : Int), .int .i64 (m : Int), .bool true, u24, u25, .pointer (some ⟨g, 0, none⟩), .pointer (some ⟨g, 0, none⟩), .pointer (some ⟨g, 0, none⟩), .pointer (some ⟨g, 0, none⟩), SV, .slice (some ⟨W.heap.size, 0, none⟩) 0 0, .slice (some ⟨bA, oA, none⟩) n c, .int .i64 (j : Int), .int .i64 (q0 : Int), .int .i64 (j : Int), .int .i64 (q0 : Int), .int .i64 ((q0 : Int) + 256), .slice (some ⟨bA, oA + q0, none⟩) 256 (c - q0), .slice (some ⟨q, 0, none⟩) 256 cq, .slice (some ⟨w1.heap.size, 0, none⟩) 1 1, .slice (some ⟨gv, 0, none⟩) (j + 1) cv, u42, u43, undef], []⟩) (by kernel_rfl) (listed' := #[true, true, true, true, true, true, true, true, true, true, true, true, true, true, true, true, false, false, false]) (by kernel_rfl) ?_
   refine any_left (by kernel_rfl) ?_
   refine wpAny_tail 16 (by kernel_rfl) (by kernel_rfl) ?_
   simp only [List.drop_succ_cons, List.drop_zero]
   rw [← htk.out] at hR5
   have HR5 := Lib.hid hR5
   clear hR5 hbW c1 c1a c1b c1c hb1 hH1 hq1 hq2 ho1 hg1 hat1 ho5 hg5 hat5 hi0 hz0 hz1 hz2 hi1 hy0 hy1 hy2 y1 y2 y3 y4 HS1
   go_wp2
   obtain ⟨B5, hR5⟩ := HR5.out.out
   refine ⟨⟨j + 1, by omega, by go_num, B5, _, _, hR5⟩, ?_⟩
   simp [intOf]; omega
  ·have hjm : j = m := by omega
   have hD := HD.out
   rw [hjm, List.take_of_length_le (by rw [Dk.chunks_length]; exact Nat.le_refl _)] at hD
   have HE := Lib.hid (hD.end_ (by rw [← HN.out]; exact HNM.out) HM.out.1 HM.out.2)
   have d0 : decide ((j : Int) < (m : Int)) = false := decide_eq_false (by omega)
   have d1 : decide (j < m) = false := decide_eq_false hlt
   clear hjm hD HD hlt hj
   go_wp2
   go_ret2
   obtain ⟨G, B', hE⟩ := HE.out
   exact ⟨g, G, B', rfl, hE⟩
end Go.Proofs.YtghenhacndaelaaGreat
