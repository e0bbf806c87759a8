/- Lemmas under the proofs of this place: DiskPCrash, SectPSplit, SectRGet. No statement is proved here. -/
import Derived.Test.YtghenhacndaelaaGreatBu17
import Derived.Test.YtghenhacndaelaaGreatBu14
import Derived.Test.YtghenhacndaelaaGreatBu15
import Derived.Test.YtghenhacndaelaaGreatBu10
import Derived.Test.YtghenhacndaelaaGreatBu12
import Derived.Test.YtghenhacndaelaaGreatBu08
import Derived.Test.YtghenhacndaelaaGreatBu11
import Derived.Test.YtghenhacndaelaaGreatBu01
import Derived.Test.YtghenhacndaelaaGreatBu05
import Derived.Test.YtghenhacndaelaaGreatBu16
set_option linter.unusedSimpArgs false
set_option linter.unusedVariables false
set_option maxRecDepth 100000
set_option maxHeartbeats 16000000
namespace Go.Proofs.YtghenhacndaelaaGreat
section
open Go.RowKit
theorem i64_and1 (n : Int) : bits .and .i64 n 1 = n % 2 := by
  have h1 : (BitVec.ofInt 64 1).toNat = 2 ^ 1 - 1 := by decide
  have key : (BitVec.ofInt 64 n &&& BitVec.ofInt 64 1).toNat = (n % ((2 ^ 64 : Nat) : Int)).toNat % 2 ^ 1 := by
    rw [BitVec.toNat_and, BitVec.toNat_ofInt, h1, Nat.and_two_pow_sub_one_eq_mod]
  show IntKind.i64.wrap ((BitVec.ofInt 64 n &&& BitVec.ofInt 64 1).toNat : Nat) = n % 2
  rw [key, IntKind.wrap_i64]
  omega
theorem bit_test (m : Int) (k : Nat) : (bits BinOp.and IntKind.i64 (m / 2 ^ k) 1 == 1) = Dk.bitOf m k := by
  rw [i64_and1]
  unfold Dk.bitOf
  by_cases h : m / 2 ^ k % 2 = 1 <;> simp [h]
theorem keep_any {w : World} {a n ca gv o xn : Nat} {L xb : List UInt8} (m : Int) (hA : Arr w a L) (hx : w.cell? ⟨gv, o, none⟩ = some (.int .i64 (xn : Int))) (hb : ∀ j, j < 256 → w.cell? ⟨gv, o + 1 + j, none⟩ = (cells xb)[j]?) (hva : gv ≠ a) (hvl : gv < w.heap.size)
    (h256 : xb.length = 256) (hn : n = L.length) (hfit : 256 * xn + 256 ≤ L.length) (hbig : L.length ≤ 1000000) (hc : n ≤ ca ∧ ca ≤ 9223372036854775807) :
    Calls Tryz.prog 50 #[.slice (some ⟨a, 0, none⟩) n ca, .pointer (some ⟨gv, o, none⟩), .int .i64 m] w fun e w' => e = .returned (.tuple #[]) ∧ Turns w w' (fun k => k = a) (fun k => k = a) ∧ Arr w' a (splice L (256 * xn) (Dk.torn ((L.drop (256 * xn)).take 256) xb m)) := by
  obtain ⟨was, hwas⟩ : ∃ was, was = (L.drop (256 * xn)).take 256 := ⟨_, rfl⟩
  have hwl : was.length = 256 := by rw [hwas]; simp; omega
  rw [← hwas]
  have HBl := Lib.hid (fun W => block_of a n ca xn W (by omega) (by omega) hc.1 hc.2)
  have Hca : Hid (256 * xn + 256 ≤ ca) := by show _ ≤ _; omega
  have H0 : Hid (splice L (256 * xn) was = L) := by show _ = _; rw [hwas]; exact Dk.splice_self _ _ _ hfit
  have HA := Lib.hid hA
  have Hw := Lib.hid hwl
  have Hx := Lib.hid h256
  have Hb := Lib.hid hb
  have Hf := Lib.hid hfit
  clear hwas hA hwl h256 hb hfit hn hbig hc
  go_enter Tryz.func50, Tryz.ntmps50
  go_wp2_with (first
    | (go_at_call 75; (with_reducible refine (HBl.out _).mono ?_); rintro e w6 ⟨rfl, rfl⟩))
  go_loopw [15] (fun x wr => ∃ k : Nat, k ≤ 4 ∧ x = .int .i64 (k : Int) ∧ Hid (Turns w wr (fun k => k = a) (fun k => k = a)) ∧ Hid (Arr wr a (splice L (256 * xn) (Dk.tornK was xb m k)))) (fun x _ => 4 - (intOf x).toNat)
  case atStart => exact ⟨0, by omega, rfl, Turns.refl _ _, by show Arr _ _ _; rw [Dk.tornK, H0.out]; exact HA.out⟩
  case round =>
    obtain ⟨k, hk, rfl, HT, HK⟩ := hrel
    by_cases hlt : k < 4
    · have u0 : (0 : Int) ≤ (k : Int) := by omega
      have u1 : (k : Int) < 4 := by omega
      obtain ⟨bt, hbt⟩ : ∃ bt, bt = Dk.bitOf m k := ⟨_, rfl⟩
      have bt1 : (bits BinOp.and IntKind.i64 (m / 2 ^ k) 1 == 1) = bt := by rw [hbt]; exact bit_test m k
      have HKK := HK.out
      rcases bt with _ | _
      · have HN : Hid (Arr wr a (splice L (256 * xn) (Dk.tornK was xb m (k + 1)))) := by
          show Arr _ _ _
          rw [Dk.tornK, ← hbt]; exact HKK
        clear hbt HKK HK
        go_wp2
        refine ⟨⟨k + 1, by omega, by go_num, HT, HN⟩, ?_⟩
        simp [intOf]; omega
      · obtain ⟨sp, hsp⟩ := HKK
        obtain ⟨q, hq⟩ : ∃ q, q = 64 * k := ⟨_, rfl⟩
        have e1 : (k : Int) * 64 = (q : Int) := by omega
        have e2 : IntKind.i64.wrap ((q : Int) + 64) = (q : Int) + 64 := IntWalk.i64_in _ (by omega)
        have v0 : (0 : Int) ≤ (q : Int) := by omega
        have v1 : (q : Int) < 256 := by omega
        have HS1 := fun W => sl_both a (256 * xn) 256 (ca - 256 * xn) q (q + 64) (q : Int) ((q : Int) + 64) rfl (by omega) (by omega) (by have := Hca.out; omega) (by have := Hca.out; omega) W
        have HS2 := fun W => sa_from gv (o + 1) q (q : Int) rfl (by omega) W
        rw [show q + 64 - q = 64 by omega] at HS1
        have hts : (Dk.tornK was xb m k).length = 256 := Dk.tornK_length was xb m Hw.out Hx.out k hk
        have hse : (Dk.sector xb k).length = 64 := Dk.sector_length xb Hx.out k hlt
        have hspl : (splice L (256 * xn) (Dk.tornK was xb m k)).length = L.length := length_splice _ _ _ (by rw [hts]; exact Hf.out)
        have HNew : Hid (∀ w7, Hid (Blk w7 a 5 (splice (cells (splice L (256 * xn) (Dk.tornK was xb m k)) ++ sp) (256 * xn + q) (cells (Dk.sector xb k))).toArray) → Arr w7 a (splice L (256 * xn) (Dk.tornK was xb m (k + 1)))) := by
          intro w7 h7
          have h7 := h7.out
          rw [splice_cells _ _ _ _ (by rw [hspl, hse]; have := Hf.out; omega), Dk.splice_in _ _ (by rw [hts]; exact Hf.out) (by rw [hts, hse]; omega)] at h7
          refine ⟨sp, ?_⟩
          rw [Dk.tornK, ← hbt, if_pos rfl, ← hq]
          exact h7
        have Hcp : Hid ((cells (Dk.sector xb k)).length = Nat.min (256 - q) 64) := by
          show _ = _
          rw [cells_length, hse]
          have : (256 - q).min 64 = min (256 - q) 64 := rfl
          omega
        have Hft : Hid (256 * xn + q + (cells (Dk.sector xb k)).length ≤ (cells (splice L (256 * xn) (Dk.tornK was xb m k)) ++ sp).length) := by
          show _ ≤ _
          rw [List.length_append, cells_length, cells_length, hspl, hse]
          have := Hf.out
          omega
        have hcur := hsp
        obtain ⟨cur, hcc⟩ : ∃ cur, cur = cells (splice L (256 * xn) (Dk.tornK was xb m k)) ++ sp := ⟨_, rfl⟩
        rw [← hcc] at hsp HNew Hft
        obtain ⟨sec, hsec⟩ : ∃ sec, sec = Dk.sector xb k := ⟨_, rfl⟩
        have Hsrc : Hid (∀ j v, (cells sec)[j]? = some v → wr.cell? ((⟨gv, o + 1 + q, none⟩ : Addr).add j) = some v) := by
          intro j v hv
          have hj : j < 64 := by have := (List.getElem?_eq_some_iff.1 hv).1; rw [cells_length, hsec, hse] at this; exact this
          rw [add_at, HT.out.cell (p := ⟨gv, o + 1 + q + j, none⟩) hvl hva, show o + 1 + q + j = o + 1 + (q + j) by omega, Hb.out (q + j) (by omega), ← hv, hsec]
          unfold Dk.sector
          rw [← cells_take, ← cells_drop, List.getElem?_take, if_pos hj, List.getElem?_drop, hq]
        rw [← hsec] at HNew Hcp Hft
        have Hsp := Lib.hid hsp
        clear hbt hq hts hse hspl hsp hcur hcc hsec
        go_wp2
        refine wp_region_any (by kernel_rfl) ?_
        change wpAny _ _ _ _ _ _ _ (World.drew _)
        refine any_as (a' := ⟨#[.slice (some ⟨a, 0, none⟩) n ca, .pointer (some ⟨gv, o, none⟩), .int .i64 m, undef, undef, undef, .slice (some ⟨a, 256 * xn, none⟩) 256 (ca - 256 * xn), .int .i64 (k : Int), .int .i64 (q : Int), .slice (some ⟨a, 0, none⟩) n ca, .pointer (some ⟨gv, o, none⟩), .pointer (some ⟨gv, o, none⟩), .pointer (some ⟨gv, o, none⟩), .int .i64 (xn : Int), .slice (some ⟨a, 256 * xn, none⟩) 256 (ca - 256 * xn), .int .i64 (k : Int), .bool true, .int .i64 (k : Int), .int .i64 m, .int .i64 (k : Int), .int .i64 (m / 2 ^ k), .int .i64 (bits .and .i64 (m / 2 ^ k) 1), .bool true, .int .i64 (k : Int), .int .i64 (q : Int), u25, u26, u27, u28, u29, u30, u31, u32, u33, u34, u35, u36], []⟩) (by kernel_rfl) (listed' := #[false, false, false, false, false, false, false, false, false, false, false]) (by kernel_rfl) ?_
        refine any_pure (i := 0) (.slice (some ⟨a, 256 * xn, none⟩) 256 (ca - 256 * xn)) rfl (by kernel_rfl) (by kernel_rfl) (by kernel_rfl) (by kernel_rfl) (fun W => by kernel_rfl) (by kernel_rfl) (by kernel_rfl) (fun _ _ _ h => h) (listed' := #[true, false, false, false, false, false, false, false, false, false, false]) (a' := ⟨#[.slice (some ⟨a, 0, none⟩) n ca, .pointer (some ⟨gv, o, none⟩), .int .i64 m, undef, undef, undef, .slice (some ⟨a, 256 * xn, none⟩) 256 (ca - 256 * xn), .int .i64 (k : Int), .int .i64 (q : Int), .slice (some ⟨a, 0, none⟩) n ca, .pointer (some ⟨gv, o, none⟩), .pointer (some ⟨gv, o, none⟩), .pointer (some ⟨gv, o, none⟩), .int .i64 (xn : Int), .slice (some ⟨a, 256 * xn, none⟩) 256 (ca - 256 * xn), .int .i64 (k : Int), .bool true, .int .i64 (k : Int), .int .i64 m, .int .i64 (k : Int), .int .i64 (m / 2 ^ k), .int .i64 (bits .and .i64 (m / 2 ^ k) 1), .bool true, .int .i64 (k : Int), .int .i64 (q : Int), .slice (some ⟨a, 256 * xn, none⟩) 256 (ca - 256 * xn), u26, u27, u28, u29, u30, u31, u32, u33, u34, u35, u36], []⟩) ?_
        refine any_pure (i := 1) (.int .i64 (q : Int)) rfl (by kernel_rfl) (by kernel_rfl) (by kernel_rfl) (by kernel_rfl) (fun W => by kernel_rfl) (by kernel_rfl) (by kernel_rfl) (fun _ _ _ h => h) (listed' := #[true, true, false, false, false, false, false, false, false, false, false]) (a' := ⟨#[.slice (some ⟨a, 0, none⟩) n ca, .pointer (some ⟨gv, o, none⟩), .int .i64 m, undef, undef, undef, .slice (some ⟨a, 256 * xn, none⟩) 256 (ca - 256 * xn), .int .i64 (k : Int), .int .i64 (q : Int), .slice (some ⟨a, 0, none⟩) n ca, .pointer (some ⟨gv, o, none⟩), .pointer (some ⟨gv, o, none⟩), .pointer (some ⟨gv, o, none⟩), .int .i64 (xn : Int), .slice (some ⟨a, 256 * xn, none⟩) 256 (ca - 256 * xn), .int .i64 (k : Int), .bool true, .int .i64 (k : Int), .int .i64 m, .int .i64 (k : Int), .int .i64 (m / 2 ^ k), .int .i64 (bits .and .i64 (m / 2 ^ k) 1), .bool true, .int .i64 (k : Int), .int .i64 (q : Int), .slice (some ⟨a, 256 * xn, none⟩) 256 (ca - 256 * xn), .int .i64 (q : Int), u27, u28, u29, u30, u31, u32, u33, u34, u35, u36], []⟩) ?_
        refine any_pure (i := 2) (.int .i64 (q : Int)) rfl (by kernel_rfl) (by kernel_rfl) (by kernel_rfl) (by kernel_rfl) (fun W => by kernel_rfl) (by kernel_rfl) (by kernel_rfl) (fun _ _ _ h => h) (listed' := #[true, true, true, false, false, false, false, false, false, false, false]) (a' := ⟨#[.slice (some ⟨a, 0, none⟩) n ca, .pointer (some ⟨gv, o, none⟩), .int .i64 m, undef, undef, undef, .slice (some ⟨a, 256 * xn, none⟩) 256 (ca - 256 * xn), .int .i64 (k : Int), .int .i64 (q : Int), .slice (some ⟨a, 0, none⟩) n ca, .pointer (some ⟨gv, o, none⟩), .pointer (some ⟨gv, o, none⟩), .pointer (some ⟨gv, o, none⟩), .int .i64 (xn : Int), .slice (some ⟨a, 256 * xn, none⟩) 256 (ca - 256 * xn), .int .i64 (k : Int), .bool true, .int .i64 (k : Int), .int .i64 m, .int .i64 (k : Int), .int .i64 (m / 2 ^ k), .int .i64 (bits .and .i64 (m / 2 ^ k) 1), .bool true, .int .i64 (k : Int), .int .i64 (q : Int), .slice (some ⟨a, 256 * xn, none⟩) 256 (ca - 256 * xn), .int .i64 (q : Int), .int .i64 (q : Int), u28, u29, u30, u31, u32, u33, u34, u35, u36], []⟩) ?_
        refine any_pure (i := 3) (.int .i64 ((q : Int) + 64)) rfl (by kernel_rfl) (by kernel_rfl) (by kernel_rfl) (by kernel_rfl) (fun W => by go_simp) (by kernel_rfl) (by kernel_rfl) (fun _ _ _ h => h) (listed' := #[true, true, true, true, false, false, false, false, false, false, false]) (a' := ⟨#[.slice (some ⟨a, 0, none⟩) n ca, .pointer (some ⟨gv, o, none⟩), .int .i64 m, undef, undef, undef, .slice (some ⟨a, 256 * xn, none⟩) 256 (ca - 256 * xn), .int .i64 (k : Int), .int .i64 (q : Int), .slice (some ⟨a, 0, none⟩) n ca, .pointer (some ⟨gv, o, none⟩), .pointer (some ⟨gv, o, none⟩), .pointer (some ⟨gv, o, none⟩), .int .i64 (xn : Int), .slice (some ⟨a, 256 * xn, none⟩) 256 (ca - 256 * xn), .int .i64 (k : Int), .bool true, .int .i64 (k : Int), .int .i64 m, .int .i64 (k : Int), .int .i64 (m / 2 ^ k), .int .i64 (bits .and .i64 (m / 2 ^ k) 1), .bool true, .int .i64 (k : Int), .int .i64 (q : Int), .slice (some ⟨a, 256 * xn, none⟩) 256 (ca - 256 * xn), .int .i64 (q : Int), .int .i64 (q : Int), .int .i64 ((q : Int) + 64), u29, u30, u31, u32, u33, u34, u35, u36], []⟩) ?_
        refine any_pure (i := 4) (.slice (some ⟨a, 256 * xn + q, none⟩) 64 (ca - 256 * xn - q)) rfl (by kernel_rfl) (by kernel_rfl) (by kernel_rfl) (by kernel_rfl) (fun W => slice_run 39 (.tmp 25) (some (.tmp 26)) (some (.tmp 28)) rfl _ _ _ _ (by kernel_rfl) (by kernel_rfl) (by kernel_rfl) (HS1 W)) (by kernel_rfl) (by kernel_rfl) (fun _ _ _ h => h) (listed' := #[true, true, true, true, true, false, false, false, false, false, false]) (a' := ⟨#[.slice (some ⟨a, 0, none⟩) n ca, .pointer (some ⟨gv, o, none⟩), .int .i64 m, undef, undef, undef, .slice (some ⟨a, 256 * xn, none⟩) 256 (ca - 256 * xn), .int .i64 (k : Int), .int .i64 (q : Int), .slice (some ⟨a, 0, none⟩) n ca, .pointer (some ⟨gv, o, none⟩), .pointer (some ⟨gv, o, none⟩), .pointer (some ⟨gv, o, none⟩), .int .i64 (xn : Int), .slice (some ⟨a, 256 * xn, none⟩) 256 (ca - 256 * xn), .int .i64 (k : Int), .bool true, .int .i64 (k : Int), .int .i64 m, .int .i64 (k : Int), .int .i64 (m / 2 ^ k), .int .i64 (bits .and .i64 (m / 2 ^ k) 1), .bool true, .int .i64 (k : Int), .int .i64 (q : Int), .slice (some ⟨a, 256 * xn, none⟩) 256 (ca - 256 * xn), .int .i64 (q : Int), .int .i64 (q : Int), .int .i64 ((q : Int) + 64), .slice (some ⟨a, 256 * xn + q, none⟩) 64 (ca - 256 * xn - q), u30, u31, u32, u33, u34, u35, u36], []⟩) ?_
        refine any_pure (i := 5) (.pointer (some ⟨gv, o, none⟩)) rfl (by kernel_rfl) (by kernel_rfl) (by kernel_rfl) (by kernel_rfl) (fun W => by kernel_rfl) (by kernel_rfl) (by kernel_rfl) (fun _ _ _ h => h) (listed' := #[true, true, true, true, true, true, false, false, false, false, false]) (a' := ⟨#[.slice (some ⟨a, 0, none⟩) n ca, .pointer (some ⟨gv, o, none⟩), .int .i64 m, undef, undef, undef, .slice (some ⟨a, 256 * xn, none⟩) 256 (ca - 256 * xn), .int .i64 (k : Int), .int .i64 (q : Int), .slice (some ⟨a, 0, none⟩) n ca, .pointer (some ⟨gv, o, none⟩), .pointer (some ⟨gv, o, none⟩), .pointer (some ⟨gv, o, none⟩), .int .i64 (xn : Int), .slice (some ⟨a, 256 * xn, none⟩) 256 (ca - 256 * xn), .int .i64 (k : Int), .bool true, .int .i64 (k : Int), .int .i64 m, .int .i64 (k : Int), .int .i64 (m / 2 ^ k), .int .i64 (bits .and .i64 (m / 2 ^ k) 1), .bool true, .int .i64 (k : Int), .int .i64 (q : Int), .slice (some ⟨a, 256 * xn, none⟩) 256 (ca - 256 * xn), .int .i64 (q : Int), .int .i64 (q : Int), .int .i64 ((q : Int) + 64), .slice (some ⟨a, 256 * xn + q, none⟩) 64 (ca - 256 * xn - q), .pointer (some ⟨gv, o, none⟩), u31, u32, u33, u34, u35, u36], []⟩) ?_
        refine any_pure (i := 6) (.pointer (some ⟨gv, o, none⟩)) rfl (by kernel_rfl) (by kernel_rfl) (by kernel_rfl) (by kernel_rfl) (fun W => by kernel_rfl) (by kernel_rfl) (by kernel_rfl) (fun _ _ _ h => h) (listed' := #[true, true, true, true, true, true, true, false, false, false, false]) (a' := ⟨#[.slice (some ⟨a, 0, none⟩) n ca, .pointer (some ⟨gv, o, none⟩), .int .i64 m, undef, undef, undef, .slice (some ⟨a, 256 * xn, none⟩) 256 (ca - 256 * xn), .int .i64 (k : Int), .int .i64 (q : Int), .slice (some ⟨a, 0, none⟩) n ca, .pointer (some ⟨gv, o, none⟩), .pointer (some ⟨gv, o, none⟩), .pointer (some ⟨gv, o, none⟩), .int .i64 (xn : Int), .slice (some ⟨a, 256 * xn, none⟩) 256 (ca - 256 * xn), .int .i64 (k : Int), .bool true, .int .i64 (k : Int), .int .i64 m, .int .i64 (k : Int), .int .i64 (m / 2 ^ k), .int .i64 (bits .and .i64 (m / 2 ^ k) 1), .bool true, .int .i64 (k : Int), .int .i64 (q : Int), .slice (some ⟨a, 256 * xn, none⟩) 256 (ca - 256 * xn), .int .i64 (q : Int), .int .i64 (q : Int), .int .i64 ((q : Int) + 64), .slice (some ⟨a, 256 * xn + q, none⟩) 64 (ca - 256 * xn - q), .pointer (some ⟨gv, o, none⟩), .pointer (some ⟨gv, o, none⟩), u32, u33, u34, u35, u36], []⟩) ?_
        refine any_pure (i := 7) (.pointer (some ⟨gv, o + 1, none⟩)) rfl (by kernel_rfl) (by kernel_rfl) (by kernel_rfl) (by kernel_rfl) (fun W => by kernel_rfl) (by kernel_rfl) (by kernel_rfl) (fun _ _ _ h => h) (listed' := #[true, true, true, true, true, true, true, true, false, false, false]) (a' := ⟨#[.slice (some ⟨a, 0, none⟩) n ca, .pointer (some ⟨gv, o, none⟩), .int .i64 m, undef, undef, undef, .slice (some ⟨a, 256 * xn, none⟩) 256 (ca - 256 * xn), .int .i64 (k : Int), .int .i64 (q : Int), .slice (some ⟨a, 0, none⟩) n ca, .pointer (some ⟨gv, o, none⟩), .pointer (some ⟨gv, o, none⟩), .pointer (some ⟨gv, o, none⟩), .int .i64 (xn : Int), .slice (some ⟨a, 256 * xn, none⟩) 256 (ca - 256 * xn), .int .i64 (k : Int), .bool true, .int .i64 (k : Int), .int .i64 m, .int .i64 (k : Int), .int .i64 (m / 2 ^ k), .int .i64 (bits .and .i64 (m / 2 ^ k) 1), .bool true, .int .i64 (k : Int), .int .i64 (q : Int), .slice (some ⟨a, 256 * xn, none⟩) 256 (ca - 256 * xn), .int .i64 (q : Int), .int .i64 (q : Int), .int .i64 ((q : Int) + 64), .slice (some ⟨a, 256 * xn + q, none⟩) 64 (ca - 256 * xn - q), .pointer (some ⟨gv, o, none⟩), .pointer (some ⟨gv, o, none⟩), .pointer (some ⟨gv, o + 1, none⟩), u33, u34, u35, u36], []⟩) ?_
        refine any_pure (i := 8) (.int .i64 (q : Int)) rfl (by kernel_rfl) (by kernel_rfl) (by kernel_rfl) (by kernel_rfl) (fun W => by kernel_rfl) (by kernel_rfl) (by kernel_rfl) (fun _ _ _ h => h) (listed' := #[true, true, true, true, true, true, true, true, true, false, false]) (a' := ⟨#[.slice (some ⟨a, 0, none⟩) n ca, .pointer (some ⟨gv, o, none⟩), .int .i64 m, undef, undef, undef, .slice (some ⟨a, 256 * xn, none⟩) 256 (ca - 256 * xn), .int .i64 (k : Int), .int .i64 (q : Int), .slice (some ⟨a, 0, none⟩) n ca, .pointer (some ⟨gv, o, none⟩), .pointer (some ⟨gv, o, none⟩), .pointer (some ⟨gv, o, none⟩), .int .i64 (xn : Int), .slice (some ⟨a, 256 * xn, none⟩) 256 (ca - 256 * xn), .int .i64 (k : Int), .bool true, .int .i64 (k : Int), .int .i64 m, .int .i64 (k : Int), .int .i64 (m / 2 ^ k), .int .i64 (bits .and .i64 (m / 2 ^ k) 1), .bool true, .int .i64 (k : Int), .int .i64 (q : Int), .slice (some ⟨a, 256 * xn, none⟩) 256 (ca - 256 * xn), .int .i64 (q : Int), .int .i64 (q : Int), .int .i64 ((q : Int) + 64), .slice (some ⟨a, 256 * xn + q, none⟩) 64 (ca - 256 * xn - q), .pointer (some ⟨gv, o, none⟩), .pointer (some ⟨gv, o, none⟩), .pointer (some ⟨gv, o + 1, none⟩), .int .i64 (q : Int), u34, u35, u36], []⟩) ?_
        refine any_pure (i := 9) (.slice (some ⟨gv, o + 1 + q, none⟩) (256 - q) (256 - q)) rfl (by kernel_rfl) (by kernel_rfl) (by kernel_rfl) (by kernel_rfl) (fun W => slice_run 97 (.tmp 32) (some (.tmp 33)) none rfl _ _ _ _ (by kernel_rfl) (by kernel_rfl) (by kernel_rfl) (HS2 W)) (by kernel_rfl) (by kernel_rfl) (fun _ _ _ h => h) (listed' := #[true, true, true, true, true, true, true, true, true, true, false]) (a' := ⟨#[.slice (some ⟨a, 0, none⟩) n ca, .pointer (some ⟨gv, o, none⟩), .int .i64 m, undef, undef, undef, .slice (some ⟨a, 256 * xn, none⟩) 256 (ca - 256 * xn), .int .i64 (k : Int), .int .i64 (q : Int), .slice (some ⟨a, 0, none⟩) n ca, .pointer (some ⟨gv, o, none⟩), .pointer (some ⟨gv, o, none⟩), .pointer (some ⟨gv, o, none⟩), .int .i64 (xn : Int), .slice (some ⟨a, 256 * xn, none⟩) 256 (ca - 256 * xn), .int .i64 (k : Int), .bool true, .int .i64 (k : Int), .int .i64 m, .int .i64 (k : Int), .int .i64 (m / 2 ^ k), .int .i64 (bits .and .i64 (m / 2 ^ k) 1), .bool true, .int .i64 (k : Int), .int .i64 (q : Int), .slice (some ⟨a, 256 * xn, none⟩) 256 (ca - 256 * xn), .int .i64 (q : Int), .int .i64 (q : Int), .int .i64 ((q : Int) + 64), .slice (some ⟨a, 256 * xn + q, none⟩) 64 (ca - 256 * xn - q), .pointer (some ⟨gv, o, none⟩), .pointer (some ⟨gv, o, none⟩), .pointer (some ⟨gv, o + 1, none⟩), .int .i64 (q : Int), .slice (some ⟨gv, o + 1 + q, none⟩) (256 - q) (256 - q), u35, u36], []⟩) ?_
        refine wpAny_tail 10 (by kernel_rfl) (by kernel_rfl) ?_
        simp only [List.drop_succ_cons, List.drop_zero]
        go_wp2_with (refine wpList_copy_foot rfl (.tmp 29) (.tmp 34) _ _ rfl 5 Tryz.underlying39 Tryz.size5 (some ⟨a, 256 * xn + q, none⟩) (some ⟨gv, o + 1 + q, none⟩) 64 (ca - 256 * xn - q) (256 - q) (256 - q) rfl rfl a (256 * xn + q) cur 5 Hsp.out.drew (cells sec) Hcp.out (fun _ => ⟨rfl, _, rfl, Hsrc.out⟩) Hft.out (cells_one _) ?_; intro w7 h7 ht7; have HT7 : Hid (Turns w w7 (fun k => k = a) (fun k => k = a)) := HT.out.trans (Turns.of_drew ht7.out); have HA7 := Lib.hid (HNew.out w7 h7); clear h7 ht7)
        refine ⟨⟨k + 1, by omega, by go_num, HT7, HA7⟩, ?_⟩
        simp [intOf]; omega
    · have hk4 : k = 4 := by omega
      have HE : Hid (Arr wr a (splice L (256 * xn) (Dk.torn was xb m))) := by
        have := HK.out
        rw [hk4, Dk.tornK_all was xb m Hw.out Hx.out] at this
        exact this
      have d0 : decide ((k : Int) < 4) = false := decide_eq_false (by omega)
      clear hk4 HK
      go_wp2
      go_end0
      exact ⟨rfl, HT.out, HE.out⟩
theorem tear_flatten {safe : List (List UInt8)} {masks : List Int} {x : Nat × List UInt8} {i : Nat} (hs : ∀ b ∈ safe, b.length = 256) (hx : x.1 < safe.length) (h2 : x.2.length = 256) (hi : i < masks.length) :
    (Dk.tear masks safe x i).flatten = splice safe.flatten (256 * x.1) (Dk.torn ((safe.flatten.drop (256 * x.1)).take 256) x.2 (masks.getD i 0)) := by
  unfold Dk.tear
  rw [if_pos hi, Dk.flatten_get safe x.1 hs hx]
  have hw : (safe.getD x.1 []).length = 256 := by
    rw [List.getD, List.getElem?_eq_getElem hx]; exact hs _ (List.getElem_mem hx)
  exact Dk.flatten_set _ _ _ hs hx (Dk.torn_length _ _ _ hw h2)
theorem crash_end {w1 wr w2 : World} {g : Nat} {F : Nat → Prop} {d : Dk} {a ca b cb n : Nat} {V : Value} {ends : Bool} {lf : Int} {masks : List Int} {sp : List Value} (h : PD w1 g F d a ca b cb n V ends lf) (ht : Turns w1 wr (fun k => k = a) (fun k => k = a))
    (hA : Arr wr a (Dk.crashed masks d.safe d.waits 0).flatten) (h2 : Hid (Blk w2 b 5 (splice (cells d.image ++ sp) 0 (cells (Dk.crashed masks d.safe d.waits 0).flatten)).toArray)) (ht2 : Hid (Turns wr.drew w2 (fun k => k = b) (fun k => k = b))) :
    PD ((((w2.setCell ⟨g, 2, none⟩ (.slice none 0 0)).setCell ⟨g, 3, none⟩ (.bool false)).setCell ⟨g, 4, none⟩ (.bool false)).setCell ⟨g, 5, none⟩ (.int .i64 0)) g F (d.crash masks) a ca b cb n (.slice none 0 0) false 0 ∧
    Turns w1 ((((w2.setCell ⟨g, 2, none⟩ (.slice none 0 0)).setCell ⟨g, 3, none⟩ (.bool false)).setCell ⟨g, 4, none⟩ (.bool false)).setCell ⟨g, 5, none⟩ (.int .i64 0)) F F ∧
    (∀ k, k < 9 → w2.cell? ⟨g, k, none⟩ = w1.cell? ⟨g, k, none⟩ ∧ w2.frozen? ⟨g, k, none⟩ = false) := by
  obtain ⟨n1, n2, n3, n4, n5⟩ := h.ne
  have hs : (Dk.crashed masks d.safe d.waits 0).length = d.safe.length := Dk.crashed_length _ _ _ _
  have hf : ∀ b ∈ Dk.crashed masks d.safe d.waits 0, b.length = 256 := Dk.crashed_fit _ _ _ _ h.good.fit.1 h.good.fit.2
  have t2 : Turns wr w2 (fun k => k = b) (fun k => k = b) := Turns.of_drew ht2.out
  have t3 : Turns w1 w2 F F := (ht.wide (E := F) (E' := F) (fun k hk => by rw [hk]; exact h.fa) (fun k hk => .inl hk)).trans (t2.wide (E := F) (E' := F) (fun k hk => by rw [hk]; exact h.fb) (fun k hk => .inl hk))
  have t4 := (((t3.trans (Turns.set_ h.fg 2 (.slice none 0 0))).trans (Turns.set_ h.fg 3 (.bool false))).trans (Turns.set_ h.fg 4 (.bool false))).trans (Turns.set_ h.fg 5 (.int .i64 0))
  have b1 : Blk w2 g 94 (diskCells a ca b cb n V ends lf d) := (h.blk.turns ht n1).turns t2 n2
  have hlen : (Dk.crashed masks d.safe d.waits 0).flatten.length = d.image.length := by rw [Dk.flatten_length hf, hs, Dk.image_length h.good.fit]
  have hb := h2.out
  rw [show (splice (cells d.image ++ sp) 0 (cells (Dk.crashed masks d.safe d.waits 0).flatten)) = cells (Dk.crashed masks d.safe d.waits 0).flatten ++ sp by
    rw [splice_cells _ _ _ _ (by omega), splice_all _ _ hlen.symm]] at hb
  have fg : ∀ {L : List UInt8} {x : Nat} {W : World} (j : Nat) (u : Value), x ≠ g → Arr W x L → Arr (W.setCell ⟨g, j, none⟩ u) x L := fun j u hx hA => hA.set_far (p := ⟨g, j, none⟩) hx u
  refine ⟨⟨(((b1.set_ 2 (.slice none 0 0)).set_ 3 (.bool false)).set_ 4 (.bool false)).set_ 5 (.int .i64 0), by simp only [Dk.crash, hs]; exact h.size, h.capa, h.capb, ?_, ?_, World.ownsRow_nil _ _ _ _, h.ab, h.fg, h.fa, h.fb, fun k hk => by simp [Value.ownBlock] at hk, fun k hk => Nat.lt_of_lt_of_le (h.flt k hk) t4.size, ?_, fun _ => rfl, fun _ h => absurd h (by show ¬ (0 : Int) ≤ -1; omega)⟩, t4, fun k hk => ⟨by rw [b1.cell, h.blk.cell], b1.frozen k⟩⟩
  · exact fg _ _ (fun e => n1 e.symm) (fg _ _ (fun e => n1 e.symm) (fg _ _ (fun e => n1 e.symm) (fg _ _ (fun e => n1 e.symm) (hA.turns t2 h.ab))))
  · rw [Dk.image_calm _ rfl]
    exact fg _ _ (fun e => n2 e.symm) (fg _ _ (fun e => n2 e.symm) (fg _ _ (fun e => n2 e.symm) (fg _ _ (fun e => n2 e.symm) ⟨sp, hb⟩)))
  · exact ⟨⟨hf, fun x hx => by cases hx⟩, by simp only [Dk.crash, hs]; exact h.good.few, by simp only [Dk.crash, hs]; exact h.good.many, ⟨Int.le_refl _, by show (-1 : Int) ≤ _; omega⟩⟩
theorem crash_any {w : World} {g : Nat} {F : Nat → Prop} {d : Dk} (h : PDisk w g F d) (masks : List Int) (A : Option Addr) (mn c2 : Nat) (hmn : mn = masks.length) (hM : RI w w.heap.size A masks) (hMF : 0 < masks.length → ∀ ad, A = some ad → ¬ F ad.block) :
    Calls Tryz.prog 23 #[.pointer (some ⟨g, 0, none⟩), .slice A mn c2] w fun e w' => e = .returned (.tuple #[]) ∧ Deeds (d.crash masks) F w w' g := by
  have z0 := fun w' => Tryz.dIsNil g w'
  obtain ⟨a, ca, b, cb, n, V, ends, lf, hP⟩ := h
  obtain ⟨A1, c, rfl, hc1, hc2⟩ := hP.vform
  have k2 := hP.c2
  obtain ⟨m, hm⟩ : ∃ m, m = d.waits.length := ⟨_, rfl⟩
  rw [← hm] at k2 hc1
  have Hm := Lib.hid hm
  have HP := Lib.hid hP
  have HM := Lib.hid hM
  have HMF := Lib.hid hMF
  have Hmn := Lib.hid hmn
  clear hP hm hM hMF hmn
  go_enter Tryz.func23, Tryz.ntmps23
  go_wp2
  go_loopw [12] (fun x wr => ∃ i : Nat, i ≤ m ∧ x = .int .i64 (i : Int) ∧ Hid (Turns w wr (fun k => k = a) (fun k => k = a)) ∧ Hid (Arr wr a (Dk.crashed masks d.safe (d.waits.take i) 0).flatten)) (fun x _ => m - (intOf x).toNat)
  case atStart => exact ⟨0, by omega, rfl, Turns.refl _ _, by show Arr _ _ _; rw [List.take_zero]; exact HP.out.safe⟩
  case round =>
    obtain ⟨i, hi, rfl, HT2, HA⟩ := hrel
    have HPr : Hid (∀ k, k ≠ a → ∀ j, k < w.heap.size → wr.cell? ⟨k, j, none⟩ = w.cell? ⟨k, j, none⟩) := fun k hk j hlt => HT2.out.cell (p := ⟨k, j, none⟩) hlt hk
    have r2 : wr.cell? ⟨g, 2, none⟩ = some (.slice A1 m c) := by rw [HPr.out g HP.out.ne.1 2 (HP.out.flt g HP.out.fg)]; exact k2
    have r0 : wr.cell? ⟨g, 0, none⟩ = some (.slice (some ⟨a, 0, none⟩) n ca) := by rw [HPr.out g HP.out.ne.1 0 (HP.out.flt g HP.out.fg)]; exact HP.out.c0
    have r1 : wr.cell? ⟨g, 1, none⟩ = some (.slice (some ⟨b, 0, none⟩) n cb) := by rw [HPr.out g HP.out.ne.1 1 (HP.out.flt g HP.out.fg)]; exact HP.out.c1
    by_cases hlt : i < m
    · obtain ⟨gv, cv, hV, hva, hvb, hvg, hvl, hm1, hm2, hcell⟩ := HP.out.row (by have := Hm.out; omega)
      obtain ⟨rfl, -, rfl⟩ : A1 = some ⟨gv, 0, none⟩ ∧ m = d.waits.length ∧ c = cv := by
        have := Hm.out
        simp only [Value.slice.injEq] at hV
        exact ⟨hV.1, this, hV.2.2⟩
      have hi2 : i < d.waits.length := by have := Hm.out; omega
      obtain ⟨hcn, hcb⟩ := hcell i hi2
      obtain ⟨x, hx⟩ : ∃ x, x = d.waits[i] := ⟨_, rfl⟩
      rw [← hx] at hcn hcb
      have u0 : (0 : Int) ≤ (i : Int) := by omega
      have u1 : (i : Int) < (m : Int) := by omega
      have hsn : Dk.crashed masks d.safe (d.waits.take (i + 1)) 0 = Dk.tear masks (Dk.crashed masks d.safe (d.waits.take i) 0) x i := by
        rw [List.take_succ_eq_append_getElem hi2, ← hx, Dk.crashed_snoc, List.length_take, Nat.zero_add, Nat.min_eq_left (by omega)]
      by_cases hik : i < mn
      · have hik2 : i < masks.length := by have := Hmn.out; omega
        obtain ⟨mb, mo, rfl, hmb, hmc⟩ := HM.out (by omega)
        have hma : mb ≠ a := fun e => HMF.out (by omega) _ rfl (by rw [show (⟨mb, mo, none⟩ : Addr).block = a from e]; exact HP.out.fa)
        obtain ⟨mk, hmk⟩ : ∃ mk, mk = masks.getD i 0 := ⟨_, rfl⟩
        have rm : wr.cell? ⟨mb, mo + i, none⟩ = some (.int .i64 mk) := by
          rw [HPr.out mb hma _ hmb, hmc i hik2, hmk]
          simp [List.getD, hik2]
        have hfit := HP.out.good.fit
        have hxm : x ∈ d.waits := by rw [hx]; exact List.getElem_mem hi2
        obtain ⟨hx1, hx2⟩ := hfit.2 x hxm
        have hsf : ∀ b ∈ Dk.crashed masks d.safe (d.waits.take i) 0, b.length = 256 := Dk.crashed_fit _ _ _ _ hfit.1 (fun y hy => hfit.2 y (List.mem_of_mem_take hy))
        have hsl : (Dk.crashed masks d.safe (d.waits.take i) 0).length = d.safe.length := Dk.crashed_length _ _ _ _
        have htf := tear_flatten (x := x) (i := i) hsf (by rw [hsl]; exact hx1) hx2 hik2
        have hfl : (Dk.crashed masks d.safe (d.waits.take i) 0).flatten.length = n := by rw [Dk.flatten_length hsf, hsl, HP.out.size]
        have hsz := HP.out.size
        have hmany := HP.out.good.many
        have hws := HT2.out.size
        have HKp : Hid (Calls Tryz.prog 50 #[.slice (some ⟨a, 0, none⟩) n ca, .pointer (some ⟨gv, i * 257, none⟩), .int .i64 mk] wr.drew fun e w' => e = .returned (.tuple #[]) ∧ Turns wr.drew w' (fun k => k = a) (fun k => k = a) ∧ Arr w' a (Dk.crashed masks d.safe (d.waits.take (i + 1)) 0).flatten) := by
          rw [hsn, htf, ← hmk]
          refine keep_any (w := wr.drew) mk (show Arr wr a _ from HA.out) (show wr.cell? _ = _ by rw [HPr.out gv hva _ hvl]; exact hcn) (fun j hj => (show wr.cell? ⟨gv, i * 257 + 1 + j, none⟩ = _ by rw [HPr.out gv hva _ hvl]; exact hcb j hj)) hva (show gv < wr.heap.size by omega) hx2 hfl.symm (by rw [hfl]; omega) (by omega) HP.out.capa
        have v0 : (i : Int) < (mn : Int) := by omega
        clear hV hcell hcn hcb hx hsn hmc hmk hfit hxm hx1 hx2 hsf hsl htf hfl hsz hmany hws HA
        go_wp2
        refine wp_region_still_tail 14 (by kernel_rfl) (by kernel_rfl) ?_
        simp only [List.take_succ_cons, List.take_zero, List.drop_succ_cons, List.drop_zero]
        iterate 14 still_step
        refine wpStill_nil ?_
        change wpList _ _ _ _ _ wr.drew
        go_wp2_with (go_at_call 50; (with_reducible refine HKp.out.mono ?_); rintro e w7 ⟨rfl, ht7, hA7⟩; have HT7 : Hid (Turns w w7 (fun k => k = a) (fun k => k = a)) := HT2.out.trans (Turns.of_drew ht7); have HA7 := Lib.hid hA7; clear ht7 hA7)
        refine ⟨⟨i + 1, by omega, by go_num, HT7, HA7⟩, ?_⟩
        simp [intOf]; omega
      · have HN : Hid (Arr wr a (Dk.crashed masks d.safe (d.waits.take (i + 1)) 0).flatten) := by
          show Arr _ _ _
          rw [hsn]
          unfold Dk.tear
          rw [if_neg (by have := Hmn.out; omega)]
          exact HA.out
        have d2 : decide ((i : Int) < (mn : Int)) = false := decide_eq_false (by omega)
        have d3 : decide (i < mn) = false := decide_eq_false hik
        clear hV hcell hcn hcb hx hsn HA hik
        go_wp2
        refine ⟨⟨i + 1, by omega, by go_num, HT2, HN⟩, ?_⟩
        simp [intOf]; omega
    · have him : i = m := by omega
      have hi2 : d.waits.take i = d.waits := by rw [him, Hm.out]; exact List.take_length
      have HA' := HA.out
      rw [hi2] at HA'
      have hA2 := Lib.hid HA'
      have d0 : decide ((i : Int) < (m : Int)) = false := decide_eq_false (by omega)
      have d1 : decide (i < m) = false := decide_eq_false hlt
      obtain ⟨sp, hsp⟩ := HP.out.last
      have hspr : Blk wr b 5 (cells d.image ++ sp).toArray := hsp.turns HT2.out (fun e => HP.out.ab e.symm)
      have hcf : ∀ b ∈ Dk.crashed masks d.safe d.waits 0, b.length = 256 := Dk.crashed_fit _ _ _ _ HP.out.good.fit.1 HP.out.good.fit.2
      obtain ⟨L2, hL2⟩ : ∃ L2, L2 = (Dk.crashed masks d.safe d.waits 0).flatten := ⟨_, rfl⟩
      have hl2 : L2.length = n := by rw [hL2, Dk.flatten_length hcf, Dk.crashed_length, HP.out.size]
      have Hcp : Hid ((cells L2).length = Nat.min n n) := by show _ = _; rw [cells_length, hl2]; exact (Nat.min_self n).symm
      have Hft : Hid (0 + (cells L2).length ≤ (cells d.image ++ sp).length) := by
        show _ ≤ _
        rw [List.length_append, cells_length, cells_length, hl2, Dk.image_length HP.out.good.fit, HP.out.size]; omega
      have Hrb := Lib.hid (show RB wr wr.heap.size (some ⟨a, 0, none⟩) L2 by rw [hL2]; exact HA'.all)
      have HE : Hid (∀ w2, Hid (Blk w2 b 5 (splice (cells d.image ++ sp) 0 (cells L2)).toArray) → Hid (Turns wr.drew w2 (fun k => k = b) (fun k => k = b)) → _) := fun w2 h1 h2 => crash_end HP.out HT2.out HA' (by rw [← hL2]; exact h1) h2
      obtain ⟨cur, hcur⟩ : ∃ cur, cur = cells d.image ++ sp := ⟨_, rfl⟩
      rw [← hcur] at hspr Hft HE
      have Hsp := Lib.hid hspr
      clear him hi2 HA' HA hlt hi hsp hspr hcf hL2 hl2 hcur
      go_wp2
      refine wp_region_still_tail 8 (by kernel_rfl) (by kernel_rfl) ?_
      simp only [List.take_succ_cons, List.take_zero, List.drop_succ_cons, List.drop_zero]
      iterate 8 still_step
      refine wpStill_nil ?_
      change wpList _ _ _ _ _ wr.drew
      go_wp2_with (refine wpList_copy_foot rfl (.tmp 38) (.tmp 42) _ _ rfl 5 Tryz.underlying39 Tryz.size5 (some ⟨b, 0, none⟩) (some ⟨a, 0, none⟩) n cb n ca rfl rfl b 0 cur 5 Hsp.out.drew (cells L2) Hcp.out (rb_src Hrb.out _) Hft.out (cells_one _) ?_; intro w7 h7 ht7; have HEE := Lib.hid (HE.out w7 h7 ht7); have q2 := (HEE.out.2.2 2 (by omega)).1; have q3 := (HEE.out.2.2 3 (by omega)).1; have q4 := (HEE.out.2.2 4 (by omega)).1; have q5 := (HEE.out.2.2 5 (by omega)).1; have f2 := (HEE.out.2.2 2 (by omega)).2; have f3 := (HEE.out.2.2 3 (by omega)).2; have f4 := (HEE.out.2.2 4 (by omega)).2; have f5 := (HEE.out.2.2 5 (by omega)).2; rw [HP.out.c2] at q2; rw [HP.out.c3] at q3; rw [HP.out.c4] at q4; rw [HP.out.c5] at q5)
      go_end0
      exact ⟨rfl, ⟨_, _, _, _, _, _, _, _, HEE.out.1⟩, HEE.out.2.1⟩
end
section
open Go.RowKit
def NewRows (g0 : Nat) (rows : List (Sd × Option Addr × Nat)) : Prop := ∀ x ∈ rows, ∀ ad, x.2.1 = some ad → g0 < ad.block
theorem NewRows.snoc {g0 : Nat} {rows : List (Sd × Option Addr × Nat)} (h : NewRows g0 rows) {x : Sd × Option Addr × Nat} (hx : ∀ ad, x.2.1 = some ad → g0 < ad.block) : NewRows g0 (rows ++ [x]) := fun y hy => by
  rcases List.mem_append.1 hy with h1 | h1
  · exact h y h1
  · rw [List.mem_singleton] at h1
    subst h1
    exact hx
theorem Cut.keep {W W' : World} {s : Sd} {t : List UInt8} {i : Nat} {rows : List (Sd × Option Addr × Nat)} (h : Cut W s t i rows) (hk : ∀ x ∈ rows, RB W W.heap.size x.2.1 x.1.data → RB W' W'.heap.size x.2.1 x.1.data) : Cut W' s t i rows :=
  ⟨h.1, h.2.1, h.2.2.1, fun x hx => hk x hx (h.2.2.2 x hx)⟩
theorem part_head (s : Sd) (t : List UInt8) (n i : Nat) : s.part t n i = ⟨(s.headAt n i).kind, (s.headAt n i).epoch, (s.headAt n i).number, (s.headAt n i).left, (t.drop (48 * i)).take 48⟩ := rfl
theorem CurB.below {B : Nat} {w w' : World} {g : Nat} {st : Option (List UInt8)} (h : CurB B w g st) (hB : B ≤ w.heap.size) (hb : Below w.heap.size w w') : CurB B w' g st :=
  h.keep (hb.block g h.lt) (fun p hp => hb.cell (by omega))
theorem CurB.only {B : Nat} {w w' : World} {g k : Nat} {st : Option (List UInt8)} (h : CurB B w g st) (hB : B ≤ w.heap.size) (ho : Only w w' k) (hg : g ≠ k) (hk : B ≤ k) : CurB B w' g st :=
  h.keep (ho.block g h.lt (by simp; omega)) (fun p hp => World.cell?_of_block (ho.block p.block (by omega) (by simp; omega)))
theorem five_cells (w : World) (v0 v1 v2 v3 v4 : Value) (t : TypeId) : ∀ j u, [v0, v1, v2, v3, v4][j]? = some u → (w.alloc (.cells #[v0, v1, v2, v3, v4] t)).cell? ((⟨w.heap.size, 0, none⟩ : Addr).add j) = some u := by
  obtain ⟨ad, e, _, hc⟩ := (five_new w v0 v1 v2 v3 v4 t).2 (by omega)
  injection e with e
  subst e
  exact hc
theorem ssplit_zero (s : Sd) (A : Option Addr) (c : Nat) (t : List UInt8) (n : Nat) (B : Option Addr) (cB : Nat) (w : World) (hn : n = t.length) (h : n = 0) :
    Calls Tryz.prog 70 #[secV s A c, .slice B n cB] w (GivesSL (splitS s t) w) := by
  subst h
  have HV : Hid (splitS s t = ([], 1)) := split_none (by rw [← hn]; rfl)
  have HN : Hid (∀ W, Calls Tryz.prog 45 #[.int .i64 0] W fun e w' => e = .returned (.int .i64 0) ∧ W = w') := fun W => sneed_any 0 (by omega) W
  have HB : Hid (∀ (v : Value), Below w.heap.size w (w.alloc (.cells #[.int .i64 s.kind, .int .i64 s.epoch, .int .i64 s.number, .int .i64 s.left, v] 49))) := fun v => (Below.refl _ _).alloc (Nat.le_refl _) _
  unfold secV
  clear hn
  go_enter Tryz.func70, Tryz.ntmps70
  go_wp2_with (go_at_call 45; (with_reducible refine (HN.out _).mono ?_); rintro e w1 ⟨rfl, rfl⟩)
  go_ret2
  exact ⟨none, 0, by rw [HV.out]; rfl, by rw [HV.out]; exact SL.nil, HB.out _⟩
theorem ssplit_in (s : Sd) (A : Option Addr) (c : Nat) (t : List UInt8) (n : Nat) (B : Option Addr) (cB : Nat) (w : World) (hn : n = t.length) (h : n ≠ 0) (hl : n ≤ 1000000) (hz : -9223372036854775808 ≤ s.number ∧ s.number ≤ 9223372036854775807) (hr : RB w w.heap.size B t) :
    Calls Tryz.prog 70 #[secV s A c, .slice B n cB] w (GivesSL (splitS s t) w) := by
  obtain ⟨N, hN⟩ : ∃ N, N = needN n := ⟨_, rfl⟩
  have hN2 : N = (n + 47) / 48 := hN
  have HN : Hid (∀ W, Calls Tryz.prog 45 #[.int .i64 (n : Int)] W fun e w' => e = .returned (.int .i64 (N : Int)) ∧ W = w') := fun W => by rw [hN]; exact sneed_any n (by omega) W
  have HNn : Hid (needN t.length = N ∧ t.length = n ∧ N = (n + 47) / 48) := ⟨by rw [hN, hn], hn.symm, hN2⟩
  obtain ⟨i0, hi0, hz0, hz1, hz2⟩ := info_parts Tryz.secInfo
  have d0 : ((N : Int) == 0) = false := by simp; omega
  have d1 : decide ((65536 : Int) < (N : Int)) = false := decide_eq_false (by omega)
  have d2 : decide ((N : Int) > 65536) = false := decide_eq_false (by omega)
  have d3 : decide (65536 < N) = false := decide_eq_false (by omega)
  have hN3 : N ≤ 20834 := by omega
  obtain ⟨kd, hkd⟩ : ∃ x, x = s.kind := ⟨_, rfl⟩
  obtain ⟨ep, hep⟩ : ∃ x, x = s.epoch := ⟨_, rfl⟩
  obtain ⟨nu, hnu⟩ : ∃ x, x = s.number := ⟨_, rfl⟩
  obtain ⟨lf, hlf⟩ : ∃ x, x = s.left := ⟨_, rfl⟩
  obtain ⟨m, hm⟩ : ∃ x, x = s.data.length := ⟨_, rfl⟩
  have HK : Hid (kd = s.kind ∧ ep = s.epoch ∧ nu = s.number) := ⟨hkd, hep, hnu⟩
  have HZ := Lib.hid hz
  have HAt : Hid (∀ (W : World) (i : Nat), i < N → (i ≠ 0 → (s.part t N 0).may = true) → Calls Tryz.prog 87 #[secV s A c, .int .i64 (i : Int), .int .i64 (N : Int)] W fun e w' => e = .returned (secV (s.headAt N i) none 0) ∧ Below W.heap.size W w') := fun W i hi h0 => by
    refine at_any s A c N i W hi (by omega) ?_ ?_
    · by_cases hi0 : i = 0
      · subst hi0; exact IntWalk.i64_in _ (by have := HZ.out; omega)
      · obtain ⟨_, _, _, _, h5, h6, _⟩ := (Sd.may_iff _).1 (h0 hi0)
        have h5 : 0 ≤ s.number + ((0 : Nat) : Int) := h5
        have h6 : s.number + ((0 : Nat) : Int) ≤ 2147483647 := h6
        exact IntWalk.i64_in _ (by omega)
    · intro hi0
      obtain ⟨h1, h2, _⟩ := (Sd.may_iff _).1 (h0 hi0)
      have h1 : 1 ≤ s.kind := h1
      have h2 : s.kind ≤ 255 := h2
      exact IntWalk.i64_in _ (by omega)
  have HFr : Hid (∀ W, Below w.heap.size w W → Calls Tryz.prog 86 #[.slice B n cB] W fun e w' => ∃ g, e = .returned (.pointer (some ⟨g, 0, none⟩)) ∧ W.heap.size ≤ g ∧ Hid (Cur w' g (some t)) ∧ Below W.heap.size W w') := fun W hb => by
    have := from_any t B cB W (rb_up7 hr hb) (by omega)
    rw [← hn] at this
    exact this
  unfold secV at HAt ⊢
  rw [← hkd, ← hep, ← hnu, ← hlf, ← hm] at HAt ⊢
  clear hn hN hN2 hnu hkd hep hlf hm hr hz
  have HW0 : Hid (∃ WA, WA = w.alloc (.cells #[.int .i64 kd, .int .i64 ep, .int .i64 nu, .int .i64 lf, .slice A m c] 49) ∧ Below w.heap.size w WA ∧ WA.heap.size = w.heap.size + 1 ∧ ∀ W, Below WA.heap.size WA W → W.cell? ⟨w.heap.size, 0, none⟩ = some (.int .i64 kd) ∧ W.cell? ⟨w.heap.size, 1, none⟩ = some (.int .i64 ep) ∧ W.cell? ⟨w.heap.size, 2, none⟩ = some (.int .i64 nu) ∧ W.cell? ⟨w.heap.size, 3, none⟩ = some (.int .i64 lf) ∧ W.cell? ⟨w.heap.size, 4, none⟩ = some (.slice A m c)) :=
    ⟨_, rfl, (Below.refl _ _).alloc (Nat.le_refl _) _, by simp, fun W hb => sec_at w _ _ _ _ A m c W hb⟩
  obtain ⟨WA, hWA, hbA, hsA, HCb⟩ := HW0.out
  have HWA := Lib.hid hWA
  have HBA := Lib.hid hbA
  have HCb := Lib.hid HCb
  have HSA := Lib.hid hsA
  have HF2 : Hid (Calls Tryz.prog 86 #[.slice B n cB] (w.alloc (.cells #[.int .i64 kd, .int .i64 ep, .int .i64 nu, .int .i64 lf, .slice A m c] 49)) fun e w' => ∃ g, e = .returned (.pointer (some ⟨g, 0, none⟩)) ∧ Hid (WA.heap.size ≤ g) ∧ Hid (Cur w' g (some t)) ∧ Hid (Below WA.heap.size WA w')) := by
    have h1 := HFr.out WA HBA.out
    rw [HWA.out] at h1 ⊢
    exact h1
  have a24 := fun w' => Tryz.aggSec w'
  have s24 := fun w' => Tryz.sizeSec w'
  clear hWA hbA HW0 hsA HFr
  go_enter Tryz.func70, Tryz.ntmps70
  go_wp2_with (first
    | (go_at_call 45; (with_reducible refine (HN.out _).mono ?_); rintro e w1 ⟨rfl, rfl⟩)
    | (go_at_call 86; (with_reducible refine HF2.out.mono ?_); rintro e w1 ⟨g, rfl, hgA, cu1, b1⟩)
    | (at_make; refine wpList_make_own _ rfl _ _ 43 rfl w1.heap.size 49 i0 _ 5 Tryz.underlying43 hi0 hz0 hz1 .i64 .i64 _ N rfl rfl (by omega) (by rw [hz2]; omega) (by unfold maxLen; omega) (Nat.le_refl _) ?_; intro w2 ho2 hg2))
  obtain ⟨g0, hg0⟩ : ∃ g0, g0 = w1.heap.size := ⟨_, rfl⟩
  rw [← hg0] at ho2 ⊢
  have hgg : g < g0 := by have := cu1.out.at_.lt; omega
  have hAg : WA.heap.size ≤ g := hgA.out
  have hb2 : Below WA.heap.size WA w2 := b1.out.grown hg2 b1.out.size (by simp)
  have hcu2 : CurB g0 w2 g (some (t.drop (48 * 0))) := by
    rw [Nat.mul_zero, List.drop_zero]
    have h1 := cu1.out.at_
    rw [← hg0] at h1
    exact h1.keep (hg2.block g (by omega) (by simp)) (fun p hp => World.cell?_of_block (hg2.block p.block (by omega) (by simp)))
  have HG := Lib.hid (And.intro hgg hAg)
  have HO2 := Lib.hid ho2
  have HB2 := Lib.hid hb2
  have HC2 := Lib.hid hcu2
  clear hgg hAg hb2 hcu2 hg2 ho2 cu1 b1 hgA hg0
  go_loopw [8, 9, 10, 25] (fun v _ _ x wr => ∃ i : Nat, i ≤ N ∧ x = .int .i64 (i : Int) ∧ v = .slice (some ⟨g0, 0, none⟩) i N ∧ ∃ rows, Hid (Cut wr s t i rows) ∧ Hid (NewRows g0 rows) ∧ Hid (wr.ownsRow g0 49 5 (.slice (some ⟨g0, 0, none⟩) i N) i (rowC rows)) ∧ Hid (CurB g0 wr g (some (t.drop (48 * i)))) ∧ Hid (Below WA.heap.size WA wr)) (fun _ _ _ x _ => N - (intOf x).toNat)
  case atStart => exact ⟨0, by omega, rfl, rfl, [], ⟨rfl, rfl, fun j hj => by omega, fun x hx => by cases hx⟩, (fun x hx => by cases hx), HO2.out, HC2.out, HB2.out⟩
  case round =>
    obtain ⟨i, hi, rfl, rfl, rows, HCt, HNw, HO, HCu, hbw⟩ := hrel
    by_cases hlt : i < N
    · have dl : decide ((i : Int) < (N : Int)) = true := decide_eq_true (by omega)
      have dl2 : decide (i < N) = true := decide_eq_true hlt
      obtain ⟨q0, hq0⟩ : ∃ q, q = 48 * i := ⟨_, rfl⟩
      obtain ⟨lft, hlft⟩ : ∃ q, q = n - q0 := ⟨_, rfl⟩
      obtain ⟨ql, hql⟩ : ∃ q, q = min 48 lft := ⟨_, rfl⟩
      obtain ⟨lz, hlz⟩ : ∃ q, q = N - 1 - i := ⟨_, rfl⟩
      obtain ⟨nz, hnz⟩ : ∃ z : Int, z = nu + (i : Int) := ⟨_, rfl⟩
      obtain ⟨kz, hkz⟩ : ∃ z : Int, z = if i = 0 then kd else kd + 1 := ⟨_, rfl⟩
      obtain ⟨D, hD⟩ : ∃ D, D = (t.drop q0).take 48 := ⟨_, rfl⟩
      have hq0n : q0 < n := by have := HNn.out.2.2; omega
      have htn := HNn.out.2.1
      have hDl : D.length = ql := by rw [hD, List.length_take, List.length_drop, htn, hql, hlft]
      have hDq : (t.drop q0).take ql = D := by
        rw [hD, hql, hlft]
        by_cases h48 : 48 ≤ n - q0
        · rw [Nat.min_eq_left h48]
        · rw [Nat.min_eq_right (by omega), List.take_of_length_le (by rw [List.length_drop]; omega), List.take_of_length_le (by rw [List.length_drop]; omega)]
      have hdr : (t.drop q0).drop ql = t.drop (48 * (i + 1)) := by
        rw [List.drop_drop]
        by_cases h48 : 48 ≤ n - q0
        · rw [show q0 + ql = 48 * (i + 1) by omega]
        · rw [List.drop_of_length_le (by omega), List.drop_of_length_le (by omega)]
      have HPt : Hid (s.part t N i = ⟨kz, ep, nz, (lz : Int), D⟩ ∧ D.length = ql ∧ True) := by
        obtain ⟨k1, k2, k3⟩ := HK.out
        refine ⟨?_, hDl, trivial⟩
        unfold Sd.part
        rw [hkz, hnz, hlz, hD, hq0, k1, k2, k3]
      have HA : Hid (∀ W, Calls Tryz.prog 87 #[.agg #[.int .i64 kd, .int .i64 ep, .int .i64 nu, .int .i64 lf, .slice A m c], .int .i64 (i : Int), .int .i64 (N : Int)] W fun e w' => e = .returned (.agg #[.int .i64 kz, .int .i64 ep, .int .i64 nz, .int .i64 (lz : Int), .slice none 0 0]) ∧ Below W.heap.size W w') := fun W => by
        have h1 := HAt.out W i hlt (fun h0 => by have := HCt.out.2.2.1 0 (by omega); rw [HNn.out.1] at this; exact this)
        have e1 : (.agg #[.int .i64 (s.headAt N i).kind, .int .i64 (s.headAt N i).epoch, .int .i64 (s.headAt N i).number, .int .i64 (s.headAt N i).left, .slice none (s.headAt N i).data.length 0] : Value) = .agg #[.int .i64 kz, .int .i64 ep, .int .i64 nz, .int .i64 (lz : Int), .slice none 0 0] := by
          obtain ⟨k1, k2, k3⟩ := HK.out
          unfold Sd.headAt
          rw [hkz, hnz, hlz, k1, k2, k3]
          rfl
        rw [e1] at h1
        exact h1
      have HL : Hid (∀ W, Hid (CurB g0 W g (some (t.drop q0))) → Hid (g0 ≤ W.heap.size) → Calls Tryz.prog 89 #[.pointer (some ⟨g, 0, none⟩)] W fun e w' => e = .returned (.int .i64 (lft : Int)) ∧ W = w') := fun W h hB => by
        have h1 := left_any g _ W (h.out.cur hB.out)
        simp only [leftN, List.length_drop, htn, ← hlft] at h1
        exact h1
      have HT : Hid (∀ W, Hid (CurB g0 W g (some (t.drop q0))) → Hid (g0 ≤ W.heap.size) → Calls Tryz.prog 88 #[.pointer (some ⟨g, 0, none⟩), .int .i64 (min 48 (lft : Int))] W fun e w' => ∃ A c, e = .returned (.slice A ql c) ∧ Hid (RB w' w'.heap.size A D) ∧ Hid (∀ ad, A = some ad → W.heap.size ≤ ad.block) ∧ Hid (CurB g0 w' g (some (t.drop (48 * (i + 1))))) ∧ Hid (Only W w' g)) := fun W h hB => by
        rw [show min (48 : Int) (lft : Int) = (ql : Int) by omega]
        have h1 := take_at g0 g (ql : Int) _ W h.out hB.out
        rw [step_ok (by rw [List.length_drop]; omega), hDq, hdr] at h1
        refine h1.mono fun e w' hh => ?_
        obtain ⟨A, c, he, h2, h3, h4, h5⟩ := hh
        simp only [hDl] at he
        exact ⟨A, c, he, h2, h3, h4, h5⟩
      have y7 : IntKind.i64.wrap ((i : Int) + 1) = (i : Int) + 1 := IntWalk.i64_in _ (by omega)
      have HMy0 : Hid (∀ (b : Bool) W (A : Option Addr) (c : Nat), (s.part t N i).may = b → Calls Tryz.prog 90 #[.agg #[.int .i64 kz, .int .i64 ep, .int .i64 nz, .int .i64 (lz : Int), .slice A ql c]] W fun e w' => e = .returned (.bool b) ∧ Below W.heap.size W w') := fun b W A c hb => by
        have h1 := maybe_any (s.part t N i) A c W
        rw [hb, HPt.out.1] at h1
        unfold secV at h1
        simp only [hDl] at h1
        exact h1
      obtain ⟨c0, c1, c2, c3, c4⟩ := HCb.out _ hbw.out
      have HB0 : Hid (g0 ≤ wr.heap.size) := by
        have := (own_lt HO.out (k := g0) rfl).1
        exact Nat.le_of_lt this
      rw [← hq0] at HCu
      clear hq0 hlft hlz hnz hkz hD hDl hDq hdr htn hq0n hql
      cases hbm : (s.part t N i).may with
      | false =>
        have HBm := Lib.hid hbm
        have HMy : Hid (∀ W (A : Option Addr) (c : Nat), Calls Tryz.prog 90 #[.agg #[.int .i64 kz, .int .i64 ep, .int .i64 nz, .int .i64 (lz : Int), .slice A ql c]] W fun e w' => e = .returned (.bool false) ∧ Below W.heap.size W w') := fun W A c => HMy0.out false W A c HBm.out
        clear hbm HMy0
        go_wp2_with (first
          | (go_at_call 87; (with_reducible refine (HA.out _).mono ?_); rintro e w3 ⟨rfl, hb3⟩; have o3 := only_below hb3 g; have cu3 : Hid (CurB g0 (w3.alloc (.cells #[.int .i64 kz, .int .i64 ep, .int .i64 nz, .int .i64 (lz : Int), .slice none 0 0] 49)) g (some (t.drop q0))) := (HCu.out.below HB0.out hb3).below (Nat.le_trans HB0.out hb3.size) ((Below.refl _ _).alloc (Nat.le_refl _) _); have z3 : Hid (g0 ≤ (w3.alloc (.cells #[.int .i64 kz, .int .i64 ep, .int .i64 nz, .int .i64 (lz : Int), .slice none 0 0] 49)).heap.size) := by { have := HB0.out; have := hb3.size; show g0 ≤ _; simp; omega }; have on3 := only_alloc o3 (.cells #[.int .i64 kz, .int .i64 ep, .int .i64 nz, .int .i64 (lz : Int), .slice none 0 0] 49); have bw3 := (hbw.out.trans (hb3.mono hbw.out.size)).alloc (Nat.le_trans hbw.out.size hb3.size) (.cells #[.int .i64 kz, .int .i64 ep, .int .i64 nz, .int .i64 (lz : Int), .slice none 0 0] 49))
          | (go_at_call 89; (with_reducible refine (HL.out _ cu3 z3).mono ?_); rintro e w' ⟨rfl, rfl⟩)
          | (go_at_call 88; (with_reducible refine (HT.out _ cu3 z3).mono ?_); rintro e w4 ⟨A4, c4, rfl, r4, nw4, cu4, o4⟩; have bk4 := Blk.only (Blk.new w3 49 #[.int .i64 kz, .int .i64 ep, .int .i64 nz, .int .i64 (lz : Int), .slice none 0 0]) o4.out (by have := HG.out.1; have := HB0.out; have := hb3.size; omega); have e4 := bk4.cell 4; have f4 := bk4.frozen 4; have bk4s : Hid (Blk (w4.setCell ⟨w3.heap.size, 4, none⟩ (.slice A4 ql c4)) w3.heap.size 49 #[.int .i64 kz, .int .i64 ep, .int .i64 nz, .int .i64 (lz : Int), .slice A4 ql c4]) := bk4.set_ 4 _; have v0 := bk4s.out.cell 0; have v1 := bk4s.out.cell 1; have v2 := bk4s.out.cell 2; have v3 := bk4s.out.cell 3; have v4 := bk4s.out.cell 4; have on4 := only_new (i := 4) (only_trans on3 o4.out) hb3.size (.slice A4 ql c4); have bw4 := (below_only bw3 o4.out HG.out.2 bw3.size).setCell (p := ⟨w3.heap.size, 4, none⟩) (Nat.le_trans hbw.out.size hb3.size) (.slice A4 ql c4))
          | (go_at_call 90; (with_reducible refine (HMy.out _ _ _).mono ?_); rintro e w5 ⟨rfl, hb5⟩; have bk5 := bk4s.out.below hb5 bk4s.out.lt; have x0 := bk5.cell 0; have x1 := bk5.cell 1; have x2 := bk5.cell 2; have x3 := bk5.cell 3; have x4 := bk5.cell 4; have on5 := only_alloc (only_more on4 hb5) (.cells #[.int .i64 kz, .int .i64 ep, .int .i64 nz, .int .i64 (lz : Int), .slice A4 ql c4] 49); have bw5 := bw4.trans (hb5.mono bw4.size); have ho5 := own_only HO.out on5 (by have := HG.out.1; simp [Value.ownBlock]; omega)))
        have HVs := split_bad (s := s) (by rw [HNn.out.2.1]; exact hl) (i := i) (by rw [HNn.out.1]; exact hlt) (by rw [HNn.out.1]; exact HBm.out)
        go_ret2
        exact ⟨none, 0, by rw [HVs]; rfl, by rw [HVs]; exact SL.nil, HBA.out.trans (bw5.mono HBA.out.size)⟩
      | true =>
        have HBm := Lib.hid hbm
        have HMy : Hid (∀ W (A : Option Addr) (c : Nat), Calls Tryz.prog 90 #[.agg #[.int .i64 kz, .int .i64 ep, .int .i64 nz, .int .i64 (lz : Int), .slice A ql c]] W fun e w' => e = .returned (.bool true) ∧ Below W.heap.size W w') := fun W A c => HMy0.out true W A c HBm.out
        clear hbm HMy0
        go_wp2_with (first
          | (go_at_call 87; (with_reducible refine (HA.out _).mono ?_); rintro e w3 ⟨rfl, hb3⟩; have o3 := only_below hb3 g; have cu3 : Hid (CurB g0 (w3.alloc (.cells #[.int .i64 kz, .int .i64 ep, .int .i64 nz, .int .i64 (lz : Int), .slice none 0 0] 49)) g (some (t.drop q0))) := (HCu.out.below HB0.out hb3).below (Nat.le_trans HB0.out hb3.size) ((Below.refl _ _).alloc (Nat.le_refl _) _); have z3 : Hid (g0 ≤ (w3.alloc (.cells #[.int .i64 kz, .int .i64 ep, .int .i64 nz, .int .i64 (lz : Int), .slice none 0 0] 49)).heap.size) := by { have := HB0.out; have := hb3.size; show g0 ≤ _; simp; omega }; have on3 := only_alloc o3 (.cells #[.int .i64 kz, .int .i64 ep, .int .i64 nz, .int .i64 (lz : Int), .slice none 0 0] 49); have bw3 := (hbw.out.trans (hb3.mono hbw.out.size)).alloc (Nat.le_trans hbw.out.size hb3.size) (.cells #[.int .i64 kz, .int .i64 ep, .int .i64 nz, .int .i64 (lz : Int), .slice none 0 0] 49))
          | (go_at_call 89; (with_reducible refine (HL.out _ cu3 z3).mono ?_); rintro e w' ⟨rfl, rfl⟩)
          | (go_at_call 88; (with_reducible refine (HT.out _ cu3 z3).mono ?_); rintro e w4 ⟨A4, c4, rfl, r4, nw4, cu4, o4⟩; have bk4 := Blk.only (Blk.new w3 49 #[.int .i64 kz, .int .i64 ep, .int .i64 nz, .int .i64 (lz : Int), .slice none 0 0]) o4.out (by have := HG.out.1; have := HB0.out; have := hb3.size; omega); have e4 := bk4.cell 4; have f4 := bk4.frozen 4; have bk4s : Hid (Blk (w4.setCell ⟨w3.heap.size, 4, none⟩ (.slice A4 ql c4)) w3.heap.size 49 #[.int .i64 kz, .int .i64 ep, .int .i64 nz, .int .i64 (lz : Int), .slice A4 ql c4]) := bk4.set_ 4 _; have v0 := bk4s.out.cell 0; have v1 := bk4s.out.cell 1; have v2 := bk4s.out.cell 2; have v3 := bk4s.out.cell 3; have v4 := bk4s.out.cell 4; have on4 := only_new (i := 4) (only_trans on3 o4.out) hb3.size (.slice A4 ql c4); have bw4 := (below_only bw3 o4.out HG.out.2 bw3.size).setCell (p := ⟨w3.heap.size, 4, none⟩) (Nat.le_trans hbw.out.size hb3.size) (.slice A4 ql c4))
          | (go_at_call 90; (with_reducible refine (HMy.out _ _ _).mono ?_); rintro e w5 ⟨rfl, hb5⟩; have bk5 := bk4s.out.below hb5 bk4s.out.lt; have x0 := bk5.cell 0; have x1 := bk5.cell 1; have x2 := bk5.cell 2; have x3 := bk5.cell 3; have x4 := bk5.cell 4; have on5 := only_alloc (only_more on4 hb5) (.cells #[.int .i64 kz, .int .i64 ep, .int .i64 nz, .int .i64 (lz : Int), .slice A4 ql c4] 49); have bw5 := bw4.trans (hb5.mono bw4.size); have ho5 := own_only HO.out on5 (by have := HG.out.1; simp [Value.ownBlock]; omega))
          | (at_builtin; refine wpList_append_fits _ rfl (.tmp 41) (.tmp 43) 43 rfl g0 49 i0 5 Tryz.underlying43 hi0 hz1 g0 i N (rowC rows) rfl ho5 ⟨w5.heap.size, 0, none⟩ 1 1 [.int .i64 kz, .int .i64 ep, .int .i64 nz, .int .i64 (lz : Int), .slice A4 ql c4] rfl rfl (five_cells w5 _ _ _ _ _ _) (rowC_five _ _ _ _ _ _ _) (by omega) ?_; intro w6 ho6 hg6))
        have gz := HB0.out
        have z35 : w3.heap.size + 1 ≤ w4.heap.size := by have := o4.out.size; simpa using this
        have z45 : w4.heap.size ≤ w5.heap.size := by have := hb5.size; simpa [World.setCell] using this
        have z33 := hb3.size
        have bw6 : Below WA.heap.size WA w6 := (bw5.alloc bw5.size (.cells #[.int .i64 kz, .int .i64 ep, .int .i64 nz, .int .i64 (lz : Int), .slice A4 ql c4] 49)).grown hg6 (by have := bw5.size; simp; omega) (fun j hj => by injection hj with hj; have := HG.out; omega)
        have hsn : rowC rows ++ [.int .i64 kz, .int .i64 ep, .int .i64 nz, .int .i64 (lz : Int), .slice A4 ql c4] = rowC (rows ++ [(s.part t (needN t.length) i, A4, c4)]) := by
          rw [rowC_snoc, HNn.out.1, HPt.out.1]
          unfold secC
          simp only [HPt.out.2.1]
        rw [hsn] at ho6
        have rn : RB w6 w6.heap.size A4 (s.part t (needN t.length) i).data := by
          rw [HNn.out.1, HPt.out.1]
          have h1 : RB (w4.setCell ⟨w3.heap.size, 4, none⟩ (.slice A4 ql c4)) w4.heap.size A4 D := rb_only r4.out (Nat.le_refl _) (only_set _ _ _ _) (fun ad e => by have := nw4.out ad e; simp at this; omega)
          have h2 : RB (w5.alloc (.cells #[.int .i64 kz, .int .i64 ep, .int .i64 nz, .int .i64 (lz : Int), .slice A4 ql c4] 49)) w4.heap.size A4 D := (h1.below (hb5.mono (by simp [World.setCell]))).alloc z45 _
          have h3 := rb_only h2 (by simp; omega) hg6 (fun ad e => by have := nw4.out ad e; simp at this; omega)
          exact h3.more (by have := hg6.size; simp at this; omega)
        have hct0 : Cut w6 s t i rows := HCt.out.keep fun x hx hrx => by
          have hne := HNw.out x hx
          have h1 := rb_only hrx (Nat.le_refl _) on5 (fun ad e => by have := hne ad e; have := HG.out.1; omega)
          have h2 := rb_only h1 on5.size hg6 (fun ad e => by have := hne ad e; omega)
          exact h2.more (Nat.le_trans on5.size hg6.size)
        have hct := hct0.snoc (A := A4) (c := c4) (by rw [HNn.out.1]; exact HBm.out) rn
        have hnw := HNw.out.snoc (x := (s.part t (needN t.length) i, A4, c4)) (fun ad e => by have := nw4.out ad e; simp at this; omega)
        have hcu6 : CurB g0 w6 g (some (t.drop (48 * (i + 1)))) := by
          have h1 := cu4.out.only (by omega) (only_set w4 w3.heap.size 4 (.slice A4 ql c4)) (by have := HG.out.1; omega) (by omega)
          have h2 := (h1.below (by simp [World.setCell]; omega) hb5).below (by omega) ((Below.refl _ _).alloc (Nat.le_refl _) (.cells #[.int .i64 kz, .int .i64 ep, .int .i64 nz, .int .i64 (lz : Int), .slice A4 ql c4] 49))
          exact h2.only (by simp; omega) hg6 (by have := HG.out.1; omega) (Nat.le_refl _)
        clear hct0 rn on3 on4 on5 bw3 bw4 bw5 ho5 hg6 hsn bk4 bk4s bk5 e4 f4 v0 v1 v2 v3 v4 x0 x1 x2 x3 x4
        refine ⟨⟨i + 1, by omega, by go_num, rfl, _, hct, hnw, ho6, hcu6, bw6⟩, ?_⟩
        simp [intOf]; omega
    · obtain rfl : i = N := by omega
      have dl : decide ((i : Int) < (i : Int)) = false := decide_eq_false (by omega)
      have hVs : splitS s t = ((List.range i).map (s.part t i), 0) := by
        have := split_ok (s := s) (by rw [HNn.out.2.1]; exact hl) (by rw [HNn.out.1]; have := HNn.out.2.2; omega) (fun j hj => HCt.out.2.2.1 j (by rw [HNn.out.1] at hj; exact hj))
        rw [HNn.out.1] at this
        exact this
      have hrows : rows.map (·.1) = (List.range i).map (s.part t i) := by have := HCt.out.2.1; rw [HNn.out.1] at this; exact this
      have hbf : Below w.heap.size w wr := HBA.out.trans (hbw.out.mono HBA.out.size)
      have HGv : Hid (GivesSL (splitS s t) w (.returned (.tuple #[.slice (some ⟨g0, 0, none⟩) i i, .int .i64 0])) wr) := by
        refine ⟨some ⟨g0, 0, none⟩, i, ?_, ?_, hbf⟩
        · rw [hVs]; simp
        · rw [hVs, ← hrows]
          exact SL.of_own HO.out HCt.out.1.symm HCt.out.2.2.2
      clear hVs hrows hbf HO HCt hbw HNw HCu
      go_wp2
      go_ret2
      exact HGv.out
theorem ssplit_any (s : Sd) (A : Option Addr) (c : Nat) (t : List UInt8) (B : Option Addr) (cB : Nat) (w : World) (hl : t.length ≤ 1000000) (hr : RB w w.heap.size B t) (hc : t.length ≤ cB) (hcm : cB ≤ 9223372036854775807) (hz : -9223372036854775808 ≤ s.number ∧ s.number ≤ 9223372036854775807) :
    Calls Tryz.prog 70 #[secV s A c, .slice B t.length cB] w (GivesSL (splitS s t) w) := by
  by_cases h0 : t.length = 0
  · exact ssplit_zero s A c t _ B cB w rfl h0
  · exact ssplit_in s A c t _ B cB w rfl h0 hl hz hr
end
section
open Go.RowKit
theorem rget_size (b : List UInt8) (n : Nat) (A : Option Addr) (c : Nat) (w : World) (hn : n = b.length) (h : n ≠ 64) :
    Calls Tryz.prog 96 #[.slice A n c] w (GivesSv A (getS b) w) := by
  have HV : Hid (getS b = (.zero, 11)) := getS_size (by omega)
  have nb := fun w' => Tryz.secBuild0 w'
  have a24 := fun w' => Tryz.aggSec w'
  have s24 := fun w' => Tryz.sizeSec w'
  have d0 : (((n : Int) != 64)) = true := by simp; omega
  have d1 : ((n : Int) == 64) = false := by simp; omega
  clear hn h
  go_enter Tryz.func96, Tryz.ntmps96
  go_wp2
  refine bodyPost_ret (v := .tuple #[.agg #[.int .i64 0, .int .i64 0, .int .i64 0, .int .i64 0, .slice none 0 0], .int .i64 11]) (by simp [results, Tryz.results96, go_sem]) rfl ⟨none, 0, by rw [HV.out]; rfl, by rw [HV.out]; exact rbc_none _, (fun h => by rw [HV.out] at h; exact absurd h (by decide)), (Below.refl _ _).alloc (Nat.le_refl _) _⟩
theorem rget_sum (b : List UInt8) (A : Option Addr) (c : Nat) (w : World) (h64 : b.length = 64) (hr : RB w w.heap.size A b) (hc : 64 ≤ c) (hcm : c ≤ 9223372036854775807) (ho : openL b = none) :
    Calls Tryz.prog 96 #[.slice A 64 c] w (GivesSv A (getS b) w) := by
  have HV : Hid (getS b = (.zero, 12)) := getS_sum h64 ho
  have HO : Hid (∀ W, Below w.heap.size w W → Calls Tryz.prog 111 #[.slice A 64 c] W fun e w' => e = .returned (.tuple #[.slice none 0 0, .int .i64 12]) ∧ Below W.heap.size W w') := fun W hb => by
    have := refOpen_any b A c _ W (rb_up7 hr hb) (by omega) hcm (by omega)
    rw [ho, h64] at this
    exact this
  have HB : Hid (Below w.heap.size w (w.alloc (.cells #[.int .i64 0, .int .i64 0, .int .i64 0, .int .i64 0, .slice none 0 0] 49))) := (Below.refl _ _).alloc (Nat.le_refl _) _
  have HC := Lib.hid (fun W hb => res_at w W hb)
  have nb := fun w' => Tryz.secBuild0 w'
  have a24 := fun w' => Tryz.aggSec w'
  have s24 := fun w' => Tryz.sizeSec w'
  clear h64 hr hc hcm ho
  go_enter Tryz.func96, Tryz.ntmps96
  go_wp2_with (go_at_call 111; (with_reducible refine (HO.out _ HB.out).mono ?_); rintro e w1 ⟨rfl, hb1⟩; obtain ⟨⟨p0, p1, p2, p3, p4⟩, f0, f1, f2, f3, f4⟩ := HC.out _ hb1)
  refine bodyPost_ret (v := .tuple #[.agg #[.int .i64 0, .int .i64 0, .int .i64 0, .int .i64 0, .slice none 0 0], .int .i64 12]) (by simp [results, Tryz.results96, go_sem, p0, p1, p2, p3, p4]) rfl ⟨none, 0, by rw [HV.out]; rfl, by rw [HV.out]; exact rbc_none _, (fun h => by rw [HV.out] at h; exact absurd h (by decide)), below_five (chain7 HB.out hb1) (Nat.le_refl _) _ _ _ _ _⟩
theorem rget_in1 (b M : List UInt8) (b0 o c : Nat) (w : World) (h64 : b.length = 64) (hr : RB w w.heap.size (some ⟨b0, o, none⟩) b) (hc : 64 ≤ c) (hcm : c ≤ 9223372036854775807) (ho : openL b = some M) (h1 : ¬ unfixL ((M.drop 4).take 4) ≤ 2147483647) :
    Calls Tryz.prog 96 #[.slice (some ⟨b0, o, none⟩) 64 c] w (GivesSv (some ⟨b0, o, none⟩) (getS b) w) := by
  have hM60 : M.length = 60 := by have := (openL_some ho).2; omega
  have hMb : M = b.take 60 := by
    have h1 := (openL_some ho).1
    rw [h1]; unfold sealL; rw [List.take_append_of_le_length (by omega), List.take_of_length_le (by omega)]
  have hrM : RB w w.heap.size (some ⟨b0, o, none⟩) M := by rw [hMb]; exact rb_take hr 60 (by omega)
  have HO : Hid (∀ W, Below w.heap.size w W → Calls Tryz.prog 111 #[.slice (some ⟨b0, o, none⟩) 64 c] W fun e w' => e = .returned (.tuple #[.slice (some ⟨b0, o, none⟩) 60 c, .int .i64 0]) ∧ Below W.heap.size W w') := fun W hb => by
    have := refOpen_view b M (some ⟨b0, o, none⟩) c W (rb_up7 hr hb) (by omega) hcm (by omega) ho
    rw [h64, hM60] at this
    exact this
  obtain ⟨lv, hlv⟩ : ∃ x, x = unfixL ((M.drop 2).take 2) := ⟨_, rfl⟩
  obtain ⟨ev, hev⟩ : ∃ x, x = unfixL ((M.drop 4).take 4) := ⟨_, rfl⟩
  obtain ⟨nv, hnv⟩ : ∃ x, x = unfixL ((M.drop 8).take 4) := ⟨_, rfl⟩
  obtain ⟨kd, hkd⟩ : ∃ x, x = (M.getD 0 0).toNat := ⟨_, rfl⟩
  obtain ⟨nn, hnn⟩ : ∃ x, x = (M.getD 1 0).toNat := ⟨_, rfl⟩
  have lvs : lv ≤ 65535 := by
    have := unfixL_lt ((M.drop 2).take 2)
    have hl : ((M.drop 2).take 2).length = 2 := by rw [List.length_take, List.length_drop]; omega
    rw [hl] at this
    have e : (256 : Nat) ^ 2 = 65536 := rfl
    omega
  have hnn256 : nn < 256 := by rw [hnn]; exact (M.getD 1 0).toNat_lt
  have hkd256 : kd < 256 := by rw [hkd]; exact (M.getD 0 0).toNat_lt
  have HU : Hid (∀ W (k q : Nat) (r : Nat × Nat), Below w.heap.size w W → k + q ≤ 60 → 1 ≤ q → q ≤ 4 → unfixR ((M.drop k).take q) = r → Calls Tryz.prog 112 #[.slice (some ⟨b0, o + k, none⟩) q (c - k)] W fun e w' => e = .returned (.tuple #[.int .i64 (r.1 : Int), .int .i64 (r.2 : Int)]) ∧ W = w') := fun W k q r hb h1 h2 h3 hq => by
    have hl : ((M.drop k).take q).length = q := by rw [List.length_take, List.length_drop]; omega
    have := refUnfix_any ((M.drop k).take q) (some ⟨b0, o + k, none⟩) (c - k) _ W (sub_rb (hrM.below hb) k q (by omega) (show M.length < c by omega)) (by omega)
    rw [hl, hq] at this
    exact this
  have l2 : ((M.drop 2).take 2).length = 2 := by rw [List.length_take, List.length_drop]; omega
  have l4 : ((M.drop 4).take 4).length = 4 := by rw [List.length_take, List.length_drop]; omega
  have l8 : ((M.drop 8).take 4).length = 4 := by rw [List.length_take, List.length_drop]; omega
  have HU1 : Hid (∀ W, Below w.heap.size w W → Calls Tryz.prog 112 #[.slice (some ⟨b0, o + 2, none⟩) 2 (c - 2)] W fun e w' => e = .returned (.tuple #[.int .i64 (lv : Int), .int .i64 0]) ∧ W = w') := fun W hb => by
    rw [hlv]; exact HU.out W 2 2 (_, 0) hb (by omega) (by omega) (by omega) (unfix_ok l2 (by omega) (by omega) (by omega))
  have HCell : Hid (∀ W, Below w.heap.size w W → W.cell? ⟨b0, o, none⟩ = some (.int .u8 (kd : Int)) ∧ W.cell? ⟨b0, o + 1, none⟩ = some (.int .u8 (nn : Int))) := fun W hb => by
    obtain ⟨b', o', e, _, hcc⟩ := (hrM.below hb).at_ (by omega)
    simp only [Option.some.injEq, Addr.mk.injEq, and_true] at e
    obtain ⟨rfl, rfl⟩ := e
    have c0 := hcc 0 (by omega)
    have c1 := hcc 1 (by omega)
    refine ⟨?_, ?_⟩
    · rw [Nat.add_zero] at c0
      rw [c0, hkd]; simp [List.getD, List.getElem?_eq_getElem (show 0 < M.length by omega)]
    · rw [c1, hnn]; simp [List.getD, List.getElem?_eq_getElem (show 1 < M.length by omega)]
  have HB : Hid (Below w.heap.size w (w.alloc (.cells #[.int .i64 0, .int .i64 0, .int .i64 0, .int .i64 0, .slice none 0 0] 49))) := (Below.refl _ _).alloc (Nat.le_refl _) _
  have HC := Lib.hid (fun W hb => res_at w W hb)
  have nb := fun w' => Tryz.secBuild0 w'
  have a24 := fun w' => Tryz.aggSec w'
  have s24 := fun w' => Tryz.sizeSec w'
  have k1 := fun W => sl_both b0 o 60 c 2 4 2 4 rfl rfl (by omega) (by omega) (by omega) W
  have k2 := fun W => sl_both b0 o 60 c 4 8 4 8 rfl rfl (by omega) (by omega) (by omega) W
  have k3 := fun W => sl_both b0 o 60 c 8 12 8 12 rfl rfl (by omega) (by omega) (by omega) W
  simp only [Nat.reduceSub] at k1 k2 k3
  have HV : Hid (getS b = (.zero, 5)) := getS_form h64 ho (fun hF => by have := hF.epoch; omega)
  have HU2 : Hid (∀ W, Below w.heap.size w W → Calls Tryz.prog 112 #[.slice (some ⟨b0, o + 4, none⟩) 4 (c - 4)] W fun e w' => e = .returned (.tuple #[.int .i64 0, .int .i64 5]) ∧ W = w') := fun W hb =>
    HU.out W 4 4 (0, 5) hb (by omega) (by omega) (by omega) (unfix_bad l4 (by omega) (by omega) (by omega))
  have HU3 : Hid (∃ x y : Nat, ∀ W, Below w.heap.size w W → Calls Tryz.prog 112 #[.slice (some ⟨b0, o + 8, none⟩) 4 (c - 8)] W fun e w' => e = .returned (.tuple #[.int .i64 (x : Int), .int .i64 (y : Int)]) ∧ W = w') := ⟨_, _, fun W hb => HU.out W 8 4 _ hb (by omega) (by omega) (by omega) rfl⟩
  obtain ⟨x, y, HU3⟩ := HU3.out
  have HU3 := Lib.hid HU3
  clear hM60 hMb hrM h64 hr hcm ho hlv hev hnv hkd hnn lvs l2 l4 l8 HU h1
  go_enter Tryz.func96, Tryz.ntmps96
  go_wp2_with (first
    | (go_at_call 111; (with_reducible refine (HO.out _ HB.out).mono ?_); rintro e w1 ⟨rfl, hb1⟩; obtain ⟨⟨p0, p1, p2, p3, p4⟩, f0, f1, f2, f3, f4⟩ := HC.out _ hb1; have b1 := chain7 HB.out hb1; obtain ⟨q0, q1⟩ := HCell.out _ b1)
    | (go_at_call 112; (with_reducible refine (HU1.out _ b1).mono ?_); rintro e w2 ⟨rfl, rfl⟩)
    | (go_at_call 112; (with_reducible refine (HU2.out _ b1).mono ?_); rintro e w2 ⟨rfl, rfl⟩)
    | (go_at_call 112; (with_reducible refine (HU3.out _ b1).mono ?_); rintro e w2 ⟨rfl, rfl⟩))
  refine bodyPost_ret (v := .tuple #[.agg #[.int .i64 0, .int .i64 0, .int .i64 0, .int .i64 0, .slice none 0 0], .int .i64 5]) (by simp [results, Tryz.results96, go_sem, p0, p1, p2, p3, p4]) rfl ⟨none, 0, by rw [HV.out]; rfl, by rw [HV.out]; exact rbc_none _, (fun h => by rw [HV.out] at h; exact absurd h (by decide)), below_five b1 (Nat.le_refl _) _ _ _ _ _⟩
theorem rget_in2 (b M : List UInt8) (b0 o c : Nat) (w : World) (h64 : b.length = 64) (hr : RB w w.heap.size (some ⟨b0, o, none⟩) b) (hc : 64 ≤ c) (hcm : c ≤ 9223372036854775807) (ho : openL b = some M) (h1 : unfixL ((M.drop 4).take 4) ≤ 2147483647) (h2 : ¬ unfixL ((M.drop 8).take 4) ≤ 2147483647) :
    Calls Tryz.prog 96 #[.slice (some ⟨b0, o, none⟩) 64 c] w (GivesSv (some ⟨b0, o, none⟩) (getS b) w) := by
  have hM60 : M.length = 60 := by have := (openL_some ho).2; omega
  have hMb : M = b.take 60 := by
    have h1 := (openL_some ho).1
    rw [h1]; unfold sealL; rw [List.take_append_of_le_length (by omega), List.take_of_length_le (by omega)]
  have hrM : RB w w.heap.size (some ⟨b0, o, none⟩) M := by rw [hMb]; exact rb_take hr 60 (by omega)
  have HO : Hid (∀ W, Below w.heap.size w W → Calls Tryz.prog 111 #[.slice (some ⟨b0, o, none⟩) 64 c] W fun e w' => e = .returned (.tuple #[.slice (some ⟨b0, o, none⟩) 60 c, .int .i64 0]) ∧ Below W.heap.size W w') := fun W hb => by
    have := refOpen_view b M (some ⟨b0, o, none⟩) c W (rb_up7 hr hb) (by omega) hcm (by omega) ho
    rw [h64, hM60] at this
    exact this
  obtain ⟨lv, hlv⟩ : ∃ x, x = unfixL ((M.drop 2).take 2) := ⟨_, rfl⟩
  obtain ⟨ev, hev⟩ : ∃ x, x = unfixL ((M.drop 4).take 4) := ⟨_, rfl⟩
  obtain ⟨nv, hnv⟩ : ∃ x, x = unfixL ((M.drop 8).take 4) := ⟨_, rfl⟩
  obtain ⟨kd, hkd⟩ : ∃ x, x = (M.getD 0 0).toNat := ⟨_, rfl⟩
  obtain ⟨nn, hnn⟩ : ∃ x, x = (M.getD 1 0).toNat := ⟨_, rfl⟩
  have lvs : lv ≤ 65535 := by
    have := unfixL_lt ((M.drop 2).take 2)
    have hl : ((M.drop 2).take 2).length = 2 := by rw [List.length_take, List.length_drop]; omega
    rw [hl] at this
    have e : (256 : Nat) ^ 2 = 65536 := rfl
    omega
  have hnn256 : nn < 256 := by rw [hnn]; exact (M.getD 1 0).toNat_lt
  have hkd256 : kd < 256 := by rw [hkd]; exact (M.getD 0 0).toNat_lt
  have HU : Hid (∀ W (k q : Nat) (r : Nat × Nat), Below w.heap.size w W → k + q ≤ 60 → 1 ≤ q → q ≤ 4 → unfixR ((M.drop k).take q) = r → Calls Tryz.prog 112 #[.slice (some ⟨b0, o + k, none⟩) q (c - k)] W fun e w' => e = .returned (.tuple #[.int .i64 (r.1 : Int), .int .i64 (r.2 : Int)]) ∧ W = w') := fun W k q r hb h1 h2 h3 hq => by
    have hl : ((M.drop k).take q).length = q := by rw [List.length_take, List.length_drop]; omega
    have := refUnfix_any ((M.drop k).take q) (some ⟨b0, o + k, none⟩) (c - k) _ W (sub_rb (hrM.below hb) k q (by omega) (show M.length < c by omega)) (by omega)
    rw [hl, hq] at this
    exact this
  have l2 : ((M.drop 2).take 2).length = 2 := by rw [List.length_take, List.length_drop]; omega
  have l4 : ((M.drop 4).take 4).length = 4 := by rw [List.length_take, List.length_drop]; omega
  have l8 : ((M.drop 8).take 4).length = 4 := by rw [List.length_take, List.length_drop]; omega
  have HU1 : Hid (∀ W, Below w.heap.size w W → Calls Tryz.prog 112 #[.slice (some ⟨b0, o + 2, none⟩) 2 (c - 2)] W fun e w' => e = .returned (.tuple #[.int .i64 (lv : Int), .int .i64 0]) ∧ W = w') := fun W hb => by
    rw [hlv]; exact HU.out W 2 2 (_, 0) hb (by omega) (by omega) (by omega) (unfix_ok l2 (by omega) (by omega) (by omega))
  have HCell : Hid (∀ W, Below w.heap.size w W → W.cell? ⟨b0, o, none⟩ = some (.int .u8 (kd : Int)) ∧ W.cell? ⟨b0, o + 1, none⟩ = some (.int .u8 (nn : Int))) := fun W hb => by
    obtain ⟨b', o', e, _, hcc⟩ := (hrM.below hb).at_ (by omega)
    simp only [Option.some.injEq, Addr.mk.injEq, and_true] at e
    obtain ⟨rfl, rfl⟩ := e
    have c0 := hcc 0 (by omega)
    have c1 := hcc 1 (by omega)
    refine ⟨?_, ?_⟩
    · rw [Nat.add_zero] at c0
      rw [c0, hkd]; simp [List.getD, List.getElem?_eq_getElem (show 0 < M.length by omega)]
    · rw [c1, hnn]; simp [List.getD, List.getElem?_eq_getElem (show 1 < M.length by omega)]
  have HB : Hid (Below w.heap.size w (w.alloc (.cells #[.int .i64 0, .int .i64 0, .int .i64 0, .int .i64 0, .slice none 0 0] 49))) := (Below.refl _ _).alloc (Nat.le_refl _) _
  have HC := Lib.hid (fun W hb => res_at w W hb)
  have nb := fun w' => Tryz.secBuild0 w'
  have a24 := fun w' => Tryz.aggSec w'
  have s24 := fun w' => Tryz.sizeSec w'
  have k1 := fun W => sl_both b0 o 60 c 2 4 2 4 rfl rfl (by omega) (by omega) (by omega) W
  have k2 := fun W => sl_both b0 o 60 c 4 8 4 8 rfl rfl (by omega) (by omega) (by omega) W
  have k3 := fun W => sl_both b0 o 60 c 8 12 8 12 rfl rfl (by omega) (by omega) (by omega) W
  simp only [Nat.reduceSub] at k1 k2 k3
  have HV : Hid (getS b = (.zero, 5)) := getS_form h64 ho (fun hF => by have := hF.number; omega)
  have HU2 : Hid (∀ W, Below w.heap.size w W → Calls Tryz.prog 112 #[.slice (some ⟨b0, o + 4, none⟩) 4 (c - 4)] W fun e w' => e = .returned (.tuple #[.int .i64 (ev : Int), .int .i64 0]) ∧ W = w') := fun W hb => by
    rw [hev]; exact HU.out W 4 4 (_, 0) hb (by omega) (by omega) (by omega) (unfix_ok l4 (by omega) (by omega) (by omega))
  have HU3 : Hid (∀ W, Below w.heap.size w W → Calls Tryz.prog 112 #[.slice (some ⟨b0, o + 8, none⟩) 4 (c - 8)] W fun e w' => e = .returned (.tuple #[.int .i64 0, .int .i64 5]) ∧ W = w') := fun W hb =>
    HU.out W 8 4 (0, 5) hb (by omega) (by omega) (by omega) (unfix_bad l8 (by omega) (by omega) (by omega))
  clear hM60 hMb hrM h64 hr hcm ho hlv hev hnv hkd hnn lvs l2 l4 l8 HU h1 h2
  go_enter Tryz.func96, Tryz.ntmps96
  go_wp2_with (first
    | (go_at_call 111; (with_reducible refine (HO.out _ HB.out).mono ?_); rintro e w1 ⟨rfl, hb1⟩; obtain ⟨⟨p0, p1, p2, p3, p4⟩, f0, f1, f2, f3, f4⟩ := HC.out _ hb1; have b1 := chain7 HB.out hb1; obtain ⟨q0, q1⟩ := HCell.out _ b1)
    | (go_at_call 112; (with_reducible refine (HU1.out _ b1).mono ?_); rintro e w2 ⟨rfl, rfl⟩)
    | (go_at_call 112; (with_reducible refine (HU2.out _ b1).mono ?_); rintro e w2 ⟨rfl, rfl⟩)
    | (go_at_call 112; (with_reducible refine (HU3.out _ b1).mono ?_); rintro e w2 ⟨rfl, rfl⟩))
  refine bodyPost_ret (v := .tuple #[.agg #[.int .i64 0, .int .i64 0, .int .i64 0, .int .i64 0, .slice none 0 0], .int .i64 5]) (by simp [results, Tryz.results96, go_sem, p0, p1, p2, p3, p4]) rfl ⟨none, 0, by rw [HV.out]; rfl, by rw [HV.out]; exact rbc_none _, (fun h => by rw [HV.out] at h; exact absurd h (by decide)), below_five b1 (Nat.le_refl _) _ _ _ _ _⟩
theorem rget_in3 (b M : List UInt8) (b0 o c : Nat) (w : World) (h64 : b.length = 64) (hr : RB w w.heap.size (some ⟨b0, o, none⟩) b) (hc : 64 ≤ c) (hcm : c ≤ 9223372036854775807) (ho : openL b = some M) (h1 : unfixL ((M.drop 4).take 4) ≤ 2147483647) (h2 : unfixL ((M.drop 8).take 4) ≤ 2147483647) (h3 : ¬ (M.getD 1 0).toNat ≤ 48) :
    Calls Tryz.prog 96 #[.slice (some ⟨b0, o, none⟩) 64 c] w (GivesSv (some ⟨b0, o, none⟩) (getS b) w) := by
  have hM60 : M.length = 60 := by have := (openL_some ho).2; omega
  have hMb : M = b.take 60 := by
    have h1 := (openL_some ho).1
    rw [h1]; unfold sealL; rw [List.take_append_of_le_length (by omega), List.take_of_length_le (by omega)]
  have hrM : RB w w.heap.size (some ⟨b0, o, none⟩) M := by rw [hMb]; exact rb_take hr 60 (by omega)
  have HO : Hid (∀ W, Below w.heap.size w W → Calls Tryz.prog 111 #[.slice (some ⟨b0, o, none⟩) 64 c] W fun e w' => e = .returned (.tuple #[.slice (some ⟨b0, o, none⟩) 60 c, .int .i64 0]) ∧ Below W.heap.size W w') := fun W hb => by
    have := refOpen_view b M (some ⟨b0, o, none⟩) c W (rb_up7 hr hb) (by omega) hcm (by omega) ho
    rw [h64, hM60] at this
    exact this
  obtain ⟨lv, hlv⟩ : ∃ x, x = unfixL ((M.drop 2).take 2) := ⟨_, rfl⟩
  obtain ⟨ev, hev⟩ : ∃ x, x = unfixL ((M.drop 4).take 4) := ⟨_, rfl⟩
  obtain ⟨nv, hnv⟩ : ∃ x, x = unfixL ((M.drop 8).take 4) := ⟨_, rfl⟩
  obtain ⟨kd, hkd⟩ : ∃ x, x = (M.getD 0 0).toNat := ⟨_, rfl⟩
  obtain ⟨nn, hnn⟩ : ∃ x, x = (M.getD 1 0).toNat := ⟨_, rfl⟩
  have lvs : lv ≤ 65535 := by
    have := unfixL_lt ((M.drop 2).take 2)
    have hl : ((M.drop 2).take 2).length = 2 := by rw [List.length_take, List.length_drop]; omega
    rw [hl] at this
    have e : (256 : Nat) ^ 2 = 65536 := rfl
    omega
  have hnn256 : nn < 256 := by rw [hnn]; exact (M.getD 1 0).toNat_lt
  have hkd256 : kd < 256 := by rw [hkd]; exact (M.getD 0 0).toNat_lt
  have HU : Hid (∀ W (k q : Nat) (r : Nat × Nat), Below w.heap.size w W → k + q ≤ 60 → 1 ≤ q → q ≤ 4 → unfixR ((M.drop k).take q) = r → Calls Tryz.prog 112 #[.slice (some ⟨b0, o + k, none⟩) q (c - k)] W fun e w' => e = .returned (.tuple #[.int .i64 (r.1 : Int), .int .i64 (r.2 : Int)]) ∧ W = w') := fun W k q r hb h1 h2 h3 hq => by
    have hl : ((M.drop k).take q).length = q := by rw [List.length_take, List.length_drop]; omega
    have := refUnfix_any ((M.drop k).take q) (some ⟨b0, o + k, none⟩) (c - k) _ W (sub_rb (hrM.below hb) k q (by omega) (show M.length < c by omega)) (by omega)
    rw [hl, hq] at this
    exact this
  have l2 : ((M.drop 2).take 2).length = 2 := by rw [List.length_take, List.length_drop]; omega
  have l4 : ((M.drop 4).take 4).length = 4 := by rw [List.length_take, List.length_drop]; omega
  have l8 : ((M.drop 8).take 4).length = 4 := by rw [List.length_take, List.length_drop]; omega
  have HU1 : Hid (∀ W, Below w.heap.size w W → Calls Tryz.prog 112 #[.slice (some ⟨b0, o + 2, none⟩) 2 (c - 2)] W fun e w' => e = .returned (.tuple #[.int .i64 (lv : Int), .int .i64 0]) ∧ W = w') := fun W hb => by
    rw [hlv]; exact HU.out W 2 2 (_, 0) hb (by omega) (by omega) (by omega) (unfix_ok l2 (by omega) (by omega) (by omega))
  have HCell : Hid (∀ W, Below w.heap.size w W → W.cell? ⟨b0, o, none⟩ = some (.int .u8 (kd : Int)) ∧ W.cell? ⟨b0, o + 1, none⟩ = some (.int .u8 (nn : Int))) := fun W hb => by
    obtain ⟨b', o', e, _, hcc⟩ := (hrM.below hb).at_ (by omega)
    simp only [Option.some.injEq, Addr.mk.injEq, and_true] at e
    obtain ⟨rfl, rfl⟩ := e
    have c0 := hcc 0 (by omega)
    have c1 := hcc 1 (by omega)
    refine ⟨?_, ?_⟩
    · rw [Nat.add_zero] at c0
      rw [c0, hkd]; simp [List.getD, List.getElem?_eq_getElem (show 0 < M.length by omega)]
    · rw [c1, hnn]; simp [List.getD, List.getElem?_eq_getElem (show 1 < M.length by omega)]
  have HB : Hid (Below w.heap.size w (w.alloc (.cells #[.int .i64 0, .int .i64 0, .int .i64 0, .int .i64 0, .slice none 0 0] 49))) := (Below.refl _ _).alloc (Nat.le_refl _) _
  have HC := Lib.hid (fun W hb => res_at w W hb)
  have nb := fun w' => Tryz.secBuild0 w'
  have a24 := fun w' => Tryz.aggSec w'
  have s24 := fun w' => Tryz.sizeSec w'
  have k1 := fun W => sl_both b0 o 60 c 2 4 2 4 rfl rfl (by omega) (by omega) (by omega) W
  have k2 := fun W => sl_both b0 o 60 c 4 8 4 8 rfl rfl (by omega) (by omega) (by omega) W
  have k3 := fun W => sl_both b0 o 60 c 8 12 8 12 rfl rfl (by omega) (by omega) (by omega) W
  simp only [Nat.reduceSub] at k1 k2 k3
  have HV : Hid (getS b = (.zero, 5)) := getS_form h64 ho (fun hF => by have := hF.len; omega)
  have HU2 : Hid (∀ W, Below w.heap.size w W → Calls Tryz.prog 112 #[.slice (some ⟨b0, o + 4, none⟩) 4 (c - 4)] W fun e w' => e = .returned (.tuple #[.int .i64 (ev : Int), .int .i64 0]) ∧ W = w') := fun W hb => by
    rw [hev]; exact HU.out W 4 4 (_, 0) hb (by omega) (by omega) (by omega) (unfix_ok l4 (by omega) (by omega) (by omega))
  have HU3 : Hid (∀ W, Below w.heap.size w W → Calls Tryz.prog 112 #[.slice (some ⟨b0, o + 8, none⟩) 4 (c - 8)] W fun e w' => e = .returned (.tuple #[.int .i64 (nv : Int), .int .i64 0]) ∧ W = w') := fun W hb => by
    rw [hnv]; exact HU.out W 8 4 (_, 0) hb (by omega) (by omega) (by omega) (unfix_ok l8 (by omega) (by omega) (by omega))
  have d0 : decide ((48 : Int) < (nn : Int)) = true := decide_eq_true (by omega)
  have d1 : decide ((nn : Int) > 48) = true := decide_eq_true (by omega)
  have d2 : decide (48 < nn) = true := decide_eq_true (by omega)
  clear hM60 hMb hrM h64 hr hcm ho hlv hev hnv hkd hnn lvs l2 l4 l8 HU h1 h2 h3
  go_enter Tryz.func96, Tryz.ntmps96
  go_wp2_with (first
    | (go_at_call 111; (with_reducible refine (HO.out _ HB.out).mono ?_); rintro e w1 ⟨rfl, hb1⟩; obtain ⟨⟨p0, p1, p2, p3, p4⟩, f0, f1, f2, f3, f4⟩ := HC.out _ hb1; have b1 := chain7 HB.out hb1; obtain ⟨q0, q1⟩ := HCell.out _ b1)
    | (go_at_call 112; (with_reducible refine (HU1.out _ b1).mono ?_); rintro e w2 ⟨rfl, rfl⟩)
    | (go_at_call 112; (with_reducible refine (HU2.out _ b1).mono ?_); rintro e w2 ⟨rfl, rfl⟩)
    | (go_at_call 112; (with_reducible refine (HU3.out _ b1).mono ?_); rintro e w2 ⟨rfl, rfl⟩))
  refine bodyPost_ret (v := .tuple #[.agg #[.int .i64 0, .int .i64 0, .int .i64 0, .int .i64 0, .slice none 0 0], .int .i64 5]) (by simp [results, Tryz.results96, go_sem, p0, p1, p2, p3, p4]) rfl ⟨none, 0, by rw [HV.out]; rfl, by rw [HV.out]; exact rbc_none _, (fun h => by rw [HV.out] at h; exact absurd h (by decide)), below_five b1 (Nat.le_refl _) _ _ _ _ _⟩
end
end Go.Proofs.YtghenhacndaelaaGreat
