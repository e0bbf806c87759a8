/- The walk of the reference's Get of a sector (layer 7). -/
import Derived.Test.YtepeoggacmaenaaSectMem
import Derived.Test.YtepeoggacmaenaaRUnfix
import Derived.Test.YtepeoggacmaenaaCrcROpen
set_option linter.unusedVariables false
namespace Go.Proofs.Ytepeoggacmaenaa
open Go.RowKit

theorem Try.secBuild0 (w : World) : Sem.run Try.prog (Instr.build 24 #[]) w = .ok (.agg #[.int .i64 0, .int .i64 0, .int .i64 0, .int .i64 0, .slice none 0 0]) w := by kernel_rfl
set_option maxRecDepth 100000 in
set_option maxHeartbeats 4000000 in
theorem rget_size (b : List UInt8) (n : Nat) (A : Option Addr) (c : Nat) (w : World) (hn : n = b.length) (h : n ≠ 64) :
    Calls Try.prog 12 #[.slice A n c] w (GivesSc (getS b) w) := by
  have HV : Hid (getS b = (.zero, 11)) := getS_size (by omega)
  have nb := fun w' => Try.secBuild0 w'
  have a24 := fun w' => Try.aggSec w'
  have s24 := fun w' => Try.sizeSec w'
  have d0 : (((n : Int) != 64)) = true := by simp; omega
  have d1 : ((n : Int) == 64) = false := by simp; omega
  clear hn h
  go_enter Try.func12, Try.ntmps12
  go_wp2
  refine bodyPost_ret (v := .tuple #[.agg #[.int .i64 0, .int .i64 0, .int .i64 0, .int .i64 0, .slice none 0 0], .int .i64 11]) (by simp [results, Try.results12, go_sem]) rfl ⟨none, 0, by rw [HV.out]; rfl, by rw [HV.out]; exact rbc_none _, (Below.refl _ _).alloc (Nat.le_refl _) _⟩
theorem below_five {w0 W : World} {B g : Nat} (h : Below B w0 W) (hg : B ≤ g) (v0 v1 v2 v3 v4 : Value) : Below B w0 (((((W.setCell ⟨g, 0, none⟩ v0).setCell ⟨g, 1, none⟩ v1).setCell ⟨g, 2, none⟩ v2).setCell ⟨g, 3, none⟩ v3).setCell ⟨g, 4, none⟩ v4) :=
  ((((h.setCell hg _).setCell hg _).setCell hg _).setCell hg _).setCell hg _
/-- The block of the result. -/
def ResAt (W : World) (g : Nat) : Prop := (W.cell? ⟨g, 0, none⟩ = some (.int .i64 0) ∧ W.cell? ⟨g, 1, none⟩ = some (.int .i64 0) ∧ W.cell? ⟨g, 2, none⟩ = some (.int .i64 0) ∧ W.cell? ⟨g, 3, none⟩ = some (.int .i64 0) ∧ W.cell? ⟨g, 4, none⟩ = some (.slice none 0 0)) ∧ W.frozen? ⟨g, 0, none⟩ = false ∧ W.frozen? ⟨g, 1, none⟩ = false ∧ W.frozen? ⟨g, 2, none⟩ = false ∧ W.frozen? ⟨g, 3, none⟩ = false ∧ W.frozen? ⟨g, 4, none⟩ = false
theorem res_at (w W : World) (hb : Below (w.alloc (.cells #[.int .i64 0, .int .i64 0, .int .i64 0, .int .i64 0, .slice none 0 0] 24)).heap.size (w.alloc (.cells #[.int .i64 0, .int .i64 0, .int .i64 0, .int .i64 0, .slice none 0 0] 24)) W) : ResAt W w.heap.size := by
  have h0 : Blk W w.heap.size 24 #[.int .i64 0, .int .i64 0, .int .i64 0, .int .i64 0, .slice none 0 0] := Blk.below (Blk.new w _ _) hb (by simp)
  exact ⟨⟨by rw [h0.cell]; rfl, by rw [h0.cell]; rfl, by rw [h0.cell]; rfl, by rw [h0.cell]; rfl, by rw [h0.cell]; rfl⟩, h0.frozen 0, h0.frozen 1, h0.frozen 2, h0.frozen 3, h0.frozen 4⟩
set_option maxRecDepth 100000 in
set_option maxHeartbeats 4000000 in
theorem rget_sum (b : List UInt8) (A : Option Addr) (c : Nat) (w : World) (h64 : b.length = 64) (hr : RB w w.heap.size A b) (hc : 64 ≤ c) (hcm : c ≤ 9223372036854775807) (ho : openL b = none) :
    Calls Try.prog 12 #[.slice A 64 c] w (GivesSc (getS b) w) := by
  have HV : Hid (getS b = (.zero, 12)) := getS_sum h64 ho
  have HO : Hid (∀ W, Below w.heap.size w W → Calls Try.prog 29 #[.slice A 64 c] W fun e w' => e = .returned (.tuple #[.slice none 0 0, .int .i64 12]) ∧ Below W.heap.size W w') := fun W hb => by
    have := refOpen_any b A c _ W (rb_up7 hr hb) (by omega) hcm (by omega)
    rw [ho, h64] at this
    exact this
  have HB : Hid (Below w.heap.size w (w.alloc (.cells #[.int .i64 0, .int .i64 0, .int .i64 0, .int .i64 0, .slice none 0 0] 24))) := (Below.refl _ _).alloc (Nat.le_refl _) _
  have HC := Lib.hid (fun W hb => res_at w W hb)
  have nb := fun w' => Try.secBuild0 w'
  have a24 := fun w' => Try.aggSec w'
  have s24 := fun w' => Try.sizeSec w'
  clear h64 hr hc hcm ho
  go_enter Try.func12, Try.ntmps12
  go_wp2_with (go_at_call 29; (with_reducible refine (HO.out _ HB.out).mono ?_); rintro e w1 ⟨rfl, hb1⟩; obtain ⟨⟨p0, p1, p2, p3, p4⟩, f0, f1, f2, f3, f4⟩ := HC.out _ hb1)
  refine bodyPost_ret (v := .tuple #[.agg #[.int .i64 0, .int .i64 0, .int .i64 0, .int .i64 0, .slice none 0 0], .int .i64 12]) (by simp [results, Try.results12, go_sem, p0, p1, p2, p3, p4]) rfl ⟨none, 0, by rw [HV.out]; rfl, by rw [HV.out]; exact rbc_none _, below_five (chain7 HB.out hb1) (Nat.le_refl _) _ _ _ _ _⟩
/-- The reference's Open gives a view of its argument. -/
theorem refOpen_view (L M : List UInt8) (A : Option Addr) (c : Nat) (w : World) (hr : RB w w.heap.size A L) (hlc : L.length ≤ c) (hc : c ≤ 9223372036854775807) (hl : L.length ≤ 1048576) (ho : openL L = some M) :
    Calls Try.prog 29 #[.slice A L.length c] w fun e w' => e = .returned (.tuple #[.slice A M.length c, .int .i64 0]) ∧ Below w.heap.size w w' := by
  have h4 : ¬ L.length < 4 := fun h => by unfold openL at ho; rw [if_neg (by omega)] at ho; cases ho
  obtain ⟨n, hn⟩ : ∃ n, n = L.length - 4 := ⟨_, rfl⟩
  have hn4 : L.length = n + 4 := by omega
  have hp : (L.take n).length = n := by rw [List.length_take]; omega
  have hrp : RB w w.heap.size A (L.take n) := rb_take hr n (by omega)
  have hM : M.length = n := by have := (openL_some ho).2; omega
  have hse : sealL (L.take n) = L := by
    unfold openL at ho
    rw [← hn] at ho
    split at ho
    · rename_i h; exact h.2
    · cases ho
  rw [hn4, hM]
  refine refOpen_core n A c L (sealL (L.take n)) w (by omega) hc (sealL (L.take n) == L) hr hn4.symm (fun w e w' => e = .returned (.tuple #[.slice A n c, .int .i64 0]) ∧ Below w.heap.size w w') (fun W hb => ?_) rfl (fun hb w' h => ⟨rfl, h⟩) (fun hb w' h => ?_)
  · have := refSeal_any (L.take n) A c _ W (hrp.below hb) (by omega)
    rwa [hp] at this
  · rw [hse] at hb; simp at hb
theorem sub_rb {w : World} {B b0 o c : Nat} {M : List UInt8} (h : RB w B (some ⟨b0, o, none⟩) M) (k q : Nat) (hk : k + q ≤ M.length) (hc : M.length < c) : RB w B (some ⟨b0, o + k, none⟩) ((M.drop k).take q) := by
  have h2 := rb_cut1 h (k := k) (c := c) (by omega) (by omega) (by omega)
  simp only [Option.map_some, add_at] at h2
  exact rb_take h2 q (by rw [List.length_drop]; omega)
theorem unfix_ok {n : Nat} {L : List UInt8} (hl : L.length = n) (h1 : 1 ≤ n) (h4 : n ≤ 4) (h : unfixL L ≤ 2147483647) : unfixR L = (unfixL L, 0) := by unfold unfixR; rw [if_neg (by omega), if_neg (by omega)]
theorem unfix_bad {n : Nat} {L : List UInt8} (hl : L.length = n) (h1 : 1 ≤ n) (h4 : n ≤ 4) (h : ¬ unfixL L ≤ 2147483647) : unfixR L = (0, 5) := by unfold unfixR; rw [if_neg (by omega), if_pos (by omega)]

set_option maxRecDepth 100000 in
set_option maxHeartbeats 4000000 in
theorem rget_in1 (b M : List UInt8) (b0 o c : Nat) (w : World) (h64 : b.length = 64) (hr : RB w w.heap.size (some ⟨b0, o, none⟩) b) (hc : 64 ≤ c) (hcm : c ≤ 9223372036854775807) (ho : openL b = some M) (h1 : ¬ unfixL ((M.drop 4).take 4) ≤ 2147483647) :
    Calls Try.prog 12 #[.slice (some ⟨b0, o, none⟩) 64 c] w (GivesSc (getS b) w) := by
  have hM60 : M.length = 60 := by have := (openL_some ho).2; omega
  have hMb : M = b.take 60 := by
    have h1 := (openL_some ho).1
    rw [h1]; unfold sealL; rw [List.take_append_of_le_length (by omega), List.take_of_length_le (by omega)]
  have hrM : RB w w.heap.size (some ⟨b0, o, none⟩) M := by rw [hMb]; exact rb_take hr 60 (by omega)
  have HO : Hid (∀ W, Below w.heap.size w W → Calls Try.prog 29 #[.slice (some ⟨b0, o, none⟩) 64 c] W fun e w' => e = .returned (.tuple #[.slice (some ⟨b0, o, none⟩) 60 c, .int .i64 0]) ∧ Below W.heap.size W w') := fun W hb => by
    have := refOpen_view b M (some ⟨b0, o, none⟩) c W (rb_up7 hr hb) (by omega) hcm (by omega) ho
    rw [h64, hM60] at this
    exact this
  obtain ⟨lv, hlv⟩ : ∃ x, x = unfixL ((M.drop 2).take 2) := ⟨_, rfl⟩
  obtain ⟨ev, hev⟩ : ∃ x, x = unfixL ((M.drop 4).take 4) := ⟨_, rfl⟩
  obtain ⟨nv, hnv⟩ : ∃ x, x = unfixL ((M.drop 8).take 4) := ⟨_, rfl⟩
  obtain ⟨kd, hkd⟩ : ∃ x, x = (M.getD 0 0).toNat := ⟨_, rfl⟩
  obtain ⟨nn, hnn⟩ : ∃ x, x = (M.getD 1 0).toNat := ⟨_, rfl⟩
  have lvs : lv ≤ 65535 := by
    have := unfixL_lt ((M.drop 2).take 2)
    have hl : ((M.drop 2).take 2).length = 2 := by rw [List.length_take, List.length_drop]; omega
    rw [hl] at this
    have e : (256 : Nat) ^ 2 = 65536 := rfl
    omega
  have hnn256 : nn < 256 := by rw [hnn]; exact (M.getD 1 0).toNat_lt
  have hkd256 : kd < 256 := by rw [hkd]; exact (M.getD 0 0).toNat_lt
  have HU : Hid (∀ W (k q : Nat) (r : Nat × Nat), Below w.heap.size w W → k + q ≤ 60 → 1 ≤ q → q ≤ 4 → unfixR ((M.drop k).take q) = r → Calls Try.prog 30 #[.slice (some ⟨b0, o + k, none⟩) q (c - k)] W fun e w' => e = .returned (.tuple #[.int .i64 (r.1 : Int), .int .i64 (r.2 : Int)]) ∧ W = w') := fun W k q r hb h1 h2 h3 hq => by
    have hl : ((M.drop k).take q).length = q := by rw [List.length_take, List.length_drop]; omega
    have := refUnfix_any ((M.drop k).take q) (some ⟨b0, o + k, none⟩) (c - k) _ W (sub_rb (hrM.below hb) k q (by omega) (show M.length < c by omega)) (by omega)
    rw [hl, hq] at this
    exact this
  have l2 : ((M.drop 2).take 2).length = 2 := by rw [List.length_take, List.length_drop]; omega
  have l4 : ((M.drop 4).take 4).length = 4 := by rw [List.length_take, List.length_drop]; omega
  have l8 : ((M.drop 8).take 4).length = 4 := by rw [List.length_take, List.length_drop]; omega
  have HU1 : Hid (∀ W, Below w.heap.size w W → Calls Try.prog 30 #[.slice (some ⟨b0, o + 2, none⟩) 2 (c - 2)] W fun e w' => e = .returned (.tuple #[.int .i64 (lv : Int), .int .i64 0]) ∧ W = w') := fun W hb => by
    rw [hlv]; exact HU.out W 2 2 (_, 0) hb (by omega) (by omega) (by omega) (unfix_ok l2 (by omega) (by omega) (by omega))
  have HCell : Hid (∀ W, Below w.heap.size w W → W.cell? ⟨b0, o, none⟩ = some (.int .u8 (kd : Int)) ∧ W.cell? ⟨b0, o + 1, none⟩ = some (.int .u8 (nn : Int))) := fun W hb => by
    obtain ⟨b', o', e, _, hcc⟩ := (hrM.below hb).at_ (by omega)
    simp only [Option.some.injEq, Addr.mk.injEq, and_true] at e
    obtain ⟨rfl, rfl⟩ := e
    have c0 := hcc 0 (by omega)
    have c1 := hcc 1 (by omega)
    refine ⟨?_, ?_⟩
    · rw [Nat.add_zero] at c0
      rw [c0, hkd]; simp [List.getD, List.getElem?_eq_getElem (show 0 < M.length by omega)]
    · rw [c1, hnn]; simp [List.getD, List.getElem?_eq_getElem (show 1 < M.length by omega)]
  have HB : Hid (Below w.heap.size w (w.alloc (.cells #[.int .i64 0, .int .i64 0, .int .i64 0, .int .i64 0, .slice none 0 0] 24))) := (Below.refl _ _).alloc (Nat.le_refl _) _
  have HC := Lib.hid (fun W hb => res_at w W hb)
  have nb := fun w' => Try.secBuild0 w'
  have a24 := fun w' => Try.aggSec w'
  have s24 := fun w' => Try.sizeSec w'
  have k1 := fun W => sl_both b0 o 60 c 2 4 2 4 rfl rfl (by omega) (by omega) (by omega) W
  have k2 := fun W => sl_both b0 o 60 c 4 8 4 8 rfl rfl (by omega) (by omega) (by omega) W
  have k3 := fun W => sl_both b0 o 60 c 8 12 8 12 rfl rfl (by omega) (by omega) (by omega) W
  simp only [Nat.reduceSub] at k1 k2 k3
  have HV : Hid (getS b = (.zero, 5)) := getS_form h64 ho (fun hF => by have := hF.epoch; omega)
  have HU2 : Hid (∀ W, Below w.heap.size w W → Calls Try.prog 30 #[.slice (some ⟨b0, o + 4, none⟩) 4 (c - 4)] W fun e w' => e = .returned (.tuple #[.int .i64 0, .int .i64 5]) ∧ W = w') := fun W hb =>
    HU.out W 4 4 (0, 5) hb (by omega) (by omega) (by omega) (unfix_bad l4 (by omega) (by omega) (by omega))
  have HU3 : Hid (∃ x y : Nat, ∀ W, Below w.heap.size w W → Calls Try.prog 30 #[.slice (some ⟨b0, o + 8, none⟩) 4 (c - 8)] W fun e w' => e = .returned (.tuple #[.int .i64 (x : Int), .int .i64 (y : Int)]) ∧ W = w') := ⟨_, _, fun W hb => HU.out W 8 4 _ hb (by omega) (by omega) (by omega) rfl⟩
  obtain ⟨x, y, HU3⟩ := HU3.out
  have HU3 := Lib.hid HU3
  clear hM60 hMb hrM h64 hr hcm ho hlv hev hnv hkd hnn lvs l2 l4 l8 HU h1
  go_enter Try.func12, Try.ntmps12
  go_wp2_with (first
    | (go_at_call 29; (with_reducible refine (HO.out _ HB.out).mono ?_); rintro e w1 ⟨rfl, hb1⟩; obtain ⟨⟨p0, p1, p2, p3, p4⟩, f0, f1, f2, f3, f4⟩ := HC.out _ hb1; have b1 := chain7 HB.out hb1; obtain ⟨q0, q1⟩ := HCell.out _ b1)
    | (go_at_call 30; (with_reducible refine (HU1.out _ b1).mono ?_); rintro e w2 ⟨rfl, rfl⟩)
    | (go_at_call 30; (with_reducible refine (HU2.out _ b1).mono ?_); rintro e w2 ⟨rfl, rfl⟩)
    | (go_at_call 30; (with_reducible refine (HU3.out _ b1).mono ?_); rintro e w2 ⟨rfl, rfl⟩))
  refine bodyPost_ret (v := .tuple #[.agg #[.int .i64 0, .int .i64 0, .int .i64 0, .int .i64 0, .slice none 0 0], .int .i64 5]) (by simp [results, Try.results12, go_sem, p0, p1, p2, p3, p4]) rfl ⟨none, 0, by rw [HV.out]; rfl, by rw [HV.out]; exact rbc_none _, below_five b1 (Nat.le_refl _) _ _ _ _ _⟩

set_option maxRecDepth 100000 in
set_option maxHeartbeats 4000000 in
theorem rget_in2 (b M : List UInt8) (b0 o c : Nat) (w : World) (h64 : b.length = 64) (hr : RB w w.heap.size (some ⟨b0, o, none⟩) b) (hc : 64 ≤ c) (hcm : c ≤ 9223372036854775807) (ho : openL b = some M) (h1 : unfixL ((M.drop 4).take 4) ≤ 2147483647) (h2 : ¬ unfixL ((M.drop 8).take 4) ≤ 2147483647) :
    Calls Try.prog 12 #[.slice (some ⟨b0, o, none⟩) 64 c] w (GivesSc (getS b) w) := by
  have hM60 : M.length = 60 := by have := (openL_some ho).2; omega
  have hMb : M = b.take 60 := by
    have h1 := (openL_some ho).1
    rw [h1]; unfold sealL; rw [List.take_append_of_le_length (by omega), List.take_of_length_le (by omega)]
  have hrM : RB w w.heap.size (some ⟨b0, o, none⟩) M := by rw [hMb]; exact rb_take hr 60 (by omega)
  have HO : Hid (∀ W, Below w.heap.size w W → Calls Try.prog 29 #[.slice (some ⟨b0, o, none⟩) 64 c] W fun e w' => e = .returned (.tuple #[.slice (some ⟨b0, o, none⟩) 60 c, .int .i64 0]) ∧ Below W.heap.size W w') := fun W hb => by
    have := refOpen_view b M (some ⟨b0, o, none⟩) c W (rb_up7 hr hb) (by omega) hcm (by omega) ho
    rw [h64, hM60] at this
    exact this
  obtain ⟨lv, hlv⟩ : ∃ x, x = unfixL ((M.drop 2).take 2) := ⟨_, rfl⟩
  obtain ⟨ev, hev⟩ : ∃ x, x = unfixL ((M.drop 4).take 4) := ⟨_, rfl⟩
  obtain ⟨nv, hnv⟩ : ∃ x, x = unfixL ((M.drop 8).take 4) := ⟨_, rfl⟩
  obtain ⟨kd, hkd⟩ : ∃ x, x = (M.getD 0 0).toNat := ⟨_, rfl⟩
  obtain ⟨nn, hnn⟩ : ∃ x, x = (M.getD 1 0).toNat := ⟨_, rfl⟩
  have lvs : lv ≤ 65535 := by
    have := unfixL_lt ((M.drop 2).take 2)
    have hl : ((M.drop 2).take 2).length = 2 := by rw [List.length_take, List.length_drop]; omega
    rw [hl] at this
    have e : (256 : Nat) ^ 2 = 65536 := rfl
    omega
  have hnn256 : nn < 256 := by rw [hnn]; exact (M.getD 1 0).toNat_lt
  have hkd256 : kd < 256 := by rw [hkd]; exact (M.getD 0 0).toNat_lt
  have HU : Hid (∀ W (k q : Nat) (r : Nat × Nat), Below w.heap.size w W → k + q ≤ 60 → 1 ≤ q → q ≤ 4 → unfixR ((M.drop k).take q) = r → Calls Try.prog 30 #[.slice (some ⟨b0, o + k, none⟩) q (c - k)] W fun e w' => e = .returned (.tuple #[.int .i64 (r.1 : Int), .int .i64 (r.2 : Int)]) ∧ W = w') := fun W k q r hb h1 h2 h3 hq => by
    have hl : ((M.drop k).take q).length = q := by rw [List.length_take, List.length_drop]; omega
    have := refUnfix_any ((M.drop k).take q) (some ⟨b0, o + k, none⟩) (c - k) _ W (sub_rb (hrM.below hb) k q (by omega) (show M.length < c by omega)) (by omega)
    rw [hl, hq] at this
    exact this
  have l2 : ((M.drop 2).take 2).length = 2 := by rw [List.length_take, List.length_drop]; omega
  have l4 : ((M.drop 4).take 4).length = 4 := by rw [List.length_take, List.length_drop]; omega
  have l8 : ((M.drop 8).take 4).length = 4 := by rw [List.length_take, List.length_drop]; omega
  have HU1 : Hid (∀ W, Below w.heap.size w W → Calls Try.prog 30 #[.slice (some ⟨b0, o + 2, none⟩) 2 (c - 2)] W fun e w' => e = .returned (.tuple #[.int .i64 (lv : Int), .int .i64 0]) ∧ W = w') := fun W hb => by
    rw [hlv]; exact HU.out W 2 2 (_, 0) hb (by omega) (by omega) (by omega) (unfix_ok l2 (by omega) (by omega) (by omega))
  have HCell : Hid (∀ W, Below w.heap.size w W → W.cell? ⟨b0, o, none⟩ = some (.int .u8 (kd : Int)) ∧ W.cell? ⟨b0, o + 1, none⟩ = some (.int .u8 (nn : Int))) := fun W hb => by
    obtain ⟨b', o', e, _, hcc⟩ := (hrM.below hb).at_ (by omega)
    simp only [Option.some.injEq, Addr.mk.injEq, and_true] at e
    obtain ⟨rfl, rfl⟩ := e
    have c0 := hcc 0 (by omega)
    have c1 := hcc 1 (by omega)
    refine ⟨?_, ?_⟩
    · rw [Nat.add_zero] at c0
      rw [c0, hkd]; simp [List.getD, List.getElem?_eq_getElem (show 0 < M.length by omega)]
    · rw [c1, hnn]; simp [List.getD, List.getElem?_eq_getElem (show 1 < M.length by omega)]
  have HB : Hid (Below w.heap.size w (w.alloc (.cells #[.int .i64 0, .int .i64 0, .int .i64 0, .int .i64 0, .slice none 0 0] 24))) := (Below.refl _ _).alloc (Nat.le_refl _) _
  have HC := Lib.hid (fun W hb => res_at w W hb)
  have nb := fun w' => Try.secBuild0 w'
  have a24 := fun w' => Try.aggSec w'
  have s24 := fun w' => Try.sizeSec w'
  have k1 := fun W => sl_both b0 o 60 c 2 4 2 4 rfl rfl (by omega) (by omega) (by omega) W
  have k2 := fun W => sl_both b0 o 60 c 4 8 4 8 rfl rfl (by omega) (by omega) (by omega) W
  have k3 := fun W => sl_both b0 o 60 c 8 12 8 12 rfl rfl (by omega) (by omega) (by omega) W
  simp only [Nat.reduceSub] at k1 k2 k3
  have HV : Hid (getS b = (.zero, 5)) := getS_form h64 ho (fun hF => by have := hF.number; omega)
  have HU2 : Hid (∀ W, Below w.heap.size w W → Calls Try.prog 30 #[.slice (some ⟨b0, o + 4, none⟩) 4 (c - 4)] W fun e w' => e = .returned (.tuple #[.int .i64 (ev : Int), .int .i64 0]) ∧ W = w') := fun W hb => by
    rw [hev]; exact HU.out W 4 4 (_, 0) hb (by omega) (by omega) (by omega) (unfix_ok l4 (by omega) (by omega) (by omega))
  have HU3 : Hid (∀ W, Below w.heap.size w W → Calls Try.prog 30 #[.slice (some ⟨b0, o + 8, none⟩) 4 (c - 8)] W fun e w' => e = .returned (.tuple #[.int .i64 0, .int .i64 5]) ∧ W = w') := fun W hb =>
    HU.out W 8 4 (0, 5) hb (by omega) (by omega) (by omega) (unfix_bad l8 (by omega) (by omega) (by omega))
  clear hM60 hMb hrM h64 hr hcm ho hlv hev hnv hkd hnn lvs l2 l4 l8 HU h1 h2
  go_enter Try.func12, Try.ntmps12
  go_wp2_with (first
    | (go_at_call 29; (with_reducible refine (HO.out _ HB.out).mono ?_); rintro e w1 ⟨rfl, hb1⟩; obtain ⟨⟨p0, p1, p2, p3, p4⟩, f0, f1, f2, f3, f4⟩ := HC.out _ hb1; have b1 := chain7 HB.out hb1; obtain ⟨q0, q1⟩ := HCell.out _ b1)
    | (go_at_call 30; (with_reducible refine (HU1.out _ b1).mono ?_); rintro e w2 ⟨rfl, rfl⟩)
    | (go_at_call 30; (with_reducible refine (HU2.out _ b1).mono ?_); rintro e w2 ⟨rfl, rfl⟩)
    | (go_at_call 30; (with_reducible refine (HU3.out _ b1).mono ?_); rintro e w2 ⟨rfl, rfl⟩))
  refine bodyPost_ret (v := .tuple #[.agg #[.int .i64 0, .int .i64 0, .int .i64 0, .int .i64 0, .slice none 0 0], .int .i64 5]) (by simp [results, Try.results12, go_sem, p0, p1, p2, p3, p4]) rfl ⟨none, 0, by rw [HV.out]; rfl, by rw [HV.out]; exact rbc_none _, below_five b1 (Nat.le_refl _) _ _ _ _ _⟩

set_option maxRecDepth 100000 in
set_option maxHeartbeats 4000000 in
theorem rget_in3 (b M : List UInt8) (b0 o c : Nat) (w : World) (h64 : b.length = 64) (hr : RB w w.heap.size (some ⟨b0, o, none⟩) b) (hc : 64 ≤ c) (hcm : c ≤ 9223372036854775807) (ho : openL b = some M) (h1 : unfixL ((M.drop 4).take 4) ≤ 2147483647) (h2 : unfixL ((M.drop 8).take 4) ≤ 2147483647) (h3 : ¬ (M.getD 1 0).toNat ≤ 48) :
    Calls Try.prog 12 #[.slice (some ⟨b0, o, none⟩) 64 c] w (GivesSc (getS b) w) := by
  have hM60 : M.length = 60 := by have := (openL_some ho).2; omega
  have hMb : M = b.take 60 := by
    have h1 := (openL_some ho).1
    rw [h1]; unfold sealL; rw [List.take_append_of_le_length (by omega), List.take_of_length_le (by omega)]
  have hrM : RB w w.heap.size (some ⟨b0, o, none⟩) M := by rw [hMb]; exact rb_take hr 60 (by omega)
  have HO : Hid (∀ W, Below w.heap.size w W → Calls Try.prog 29 #[.slice (some ⟨b0, o, none⟩) 64 c] W fun e w' => e = .returned (.tuple #[.slice (some ⟨b0, o, none⟩) 60 c, .int .i64 0]) ∧ Below W.heap.size W w') := fun W hb => by
    have := refOpen_view b M (some ⟨b0, o, none⟩) c W (rb_up7 hr hb) (by omega) hcm (by omega) ho
    rw [h64, hM60] at this
    exact this
  obtain ⟨lv, hlv⟩ : ∃ x, x = unfixL ((M.drop 2).take 2) := ⟨_, rfl⟩
  obtain ⟨ev, hev⟩ : ∃ x, x = unfixL ((M.drop 4).take 4) := ⟨_, rfl⟩
  obtain ⟨nv, hnv⟩ : ∃ x, x = unfixL ((M.drop 8).take 4) := ⟨_, rfl⟩
  obtain ⟨kd, hkd⟩ : ∃ x, x = (M.getD 0 0).toNat := ⟨_, rfl⟩
  obtain ⟨nn, hnn⟩ : ∃ x, x = (M.getD 1 0).toNat := ⟨_, rfl⟩
  have lvs : lv ≤ 65535 := by
    have := unfixL_lt ((M.drop 2).take 2)
    have hl : ((M.drop 2).take 2).length = 2 := by rw [List.length_take, List.length_drop]; omega
    rw [hl] at this
    have e : (256 : Nat) ^ 2 = 65536 := rfl
    omega
  have hnn256 : nn < 256 := by rw [hnn]; exact (M.getD 1 0).toNat_lt
  have hkd256 : kd < 256 := by rw [hkd]; exact (M.getD 0 0).toNat_lt
  have HU : Hid (∀ W (k q : Nat) (r : Nat × Nat), Below w.heap.size w W → k + q ≤ 60 → 1 ≤ q → q ≤ 4 → unfixR ((M.drop k).take q) = r → Calls Try.prog 30 #[.slice (some ⟨b0, o + k, none⟩) q (c - k)] W fun e w' => e = .returned (.tuple #[.int .i64 (r.1 : Int), .int .i64 (r.2 : Int)]) ∧ W = w') := fun W k q r hb h1 h2 h3 hq => by
    have hl : ((M.drop k).take q).length = q := by rw [List.length_take, List.length_drop]; omega
    have := refUnfix_any ((M.drop k).take q) (some ⟨b0, o + k, none⟩) (c - k) _ W (sub_rb (hrM.below hb) k q (by omega) (show M.length < c by omega)) (by omega)
    rw [hl, hq] at this
    exact this
  have l2 : ((M.drop 2).take 2).length = 2 := by rw [List.length_take, List.length_drop]; omega
  have l4 : ((M.drop 4).take 4).length = 4 := by rw [List.length_take, List.length_drop]; omega
  have l8 : ((M.drop 8).take 4).length = 4 := by rw [List.length_take, List.length_drop]; omega
  have HU1 : Hid (∀ W, Below w.heap.size w W → Calls Try.prog 30 #[.slice (some ⟨b0, o + 2, none⟩) 2 (c - 2)] W fun e w' => e = .returned (.tuple #[.int .i64 (lv : Int), .int .i64 0]) ∧ W = w') := fun W hb => by
    rw [hlv]; exact HU.out W 2 2 (_, 0) hb (by omega) (by omega) (by omega) (unfix_ok l2 (by omega) (by omega) (by omega))
  have HCell : Hid (∀ W, Below w.heap.size w W → W.cell? ⟨b0, o, none⟩ = some (.int .u8 (kd : Int)) ∧ W.cell? ⟨b0, o + 1, none⟩ = some (.int .u8 (nn : Int))) := fun W hb => by
    obtain ⟨b', o', e, _, hcc⟩ := (hrM.below hb).at_ (by omega)
    simp only [Option.some.injEq, Addr.mk.injEq, and_true] at e
    obtain ⟨rfl, rfl⟩ := e
    have c0 := hcc 0 (by omega)
    have c1 := hcc 1 (by omega)
    refine ⟨?_, ?_⟩
    · rw [Nat.add_zero] at c0
      rw [c0, hkd]; simp [List.getD, List.getElem?_eq_getElem (show 0 < M.length by omega)]
    · rw [c1, hnn]; simp [List.getD, List.getElem?_eq_getElem (show 1 < M.length by omega)]
  have HB : Hid (Below w.heap.size w (w.alloc (.cells #[.int .i64 0, .int .i64 0, .int .i64 0, .int .i64 0, .slice none 0 0] 24))) := (Below.refl _ _).alloc (Nat.le_refl _) _
  have HC := Lib.hid (fun W hb => res_at w W hb)
  have nb := fun w' => Try.secBuild0 w'
  have a24 := fun w' => Try.aggSec w'
  have s24 := fun w' => Try.sizeSec w'
  have k1 := fun W => sl_both b0 o 60 c 2 4 2 4 rfl rfl (by omega) (by omega) (by omega) W
  have k2 := fun W => sl_both b0 o 60 c 4 8 4 8 rfl rfl (by omega) (by omega) (by omega) W
  have k3 := fun W => sl_both b0 o 60 c 8 12 8 12 rfl rfl (by omega) (by omega) (by omega) W
  simp only [Nat.reduceSub] at k1 k2 k3
  have HV : Hid (getS b = (.zero, 5)) := getS_form h64 ho (fun hF => by have := hF.len; omega)
  have HU2 : Hid (∀ W, Below w.heap.size w W → Calls Try.prog 30 #[.slice (some ⟨b0, o + 4, none⟩) 4 (c - 4)] W fun e w' => e = .returned (.tuple #[.int .i64 (ev : Int), .int .i64 0]) ∧ W = w') := fun W hb => by
    rw [hev]; exact HU.out W 4 4 (_, 0) hb (by omega) (by omega) (by omega) (unfix_ok l4 (by omega) (by omega) (by omega))
  have HU3 : Hid (∀ W, Below w.heap.size w W → Calls Try.prog 30 #[.slice (some ⟨b0, o + 8, none⟩) 4 (c - 8)] W fun e w' => e = .returned (.tuple #[.int .i64 (nv : Int), .int .i64 0]) ∧ W = w') := fun W hb => by
    rw [hnv]; exact HU.out W 8 4 (_, 0) hb (by omega) (by omega) (by omega) (unfix_ok l8 (by omega) (by omega) (by omega))
  have d0 : decide ((48 : Int) < (nn : Int)) = true := decide_eq_true (by omega)
  have d1 : decide ((nn : Int) > 48) = true := decide_eq_true (by omega)
  have d2 : decide (48 < nn) = true := decide_eq_true (by omega)
  clear hM60 hMb hrM h64 hr hcm ho hlv hev hnv hkd hnn lvs l2 l4 l8 HU h1 h2 h3
  go_enter Try.func12, Try.ntmps12
  go_wp2_with (first
    | (go_at_call 29; (with_reducible refine (HO.out _ HB.out).mono ?_); rintro e w1 ⟨rfl, hb1⟩; obtain ⟨⟨p0, p1, p2, p3, p4⟩, f0, f1, f2, f3, f4⟩ := HC.out _ hb1; have b1 := chain7 HB.out hb1; obtain ⟨q0, q1⟩ := HCell.out _ b1)
    | (go_at_call 30; (with_reducible refine (HU1.out _ b1).mono ?_); rintro e w2 ⟨rfl, rfl⟩)
    | (go_at_call 30; (with_reducible refine (HU2.out _ b1).mono ?_); rintro e w2 ⟨rfl, rfl⟩)
    | (go_at_call 30; (with_reducible refine (HU3.out _ b1).mono ?_); rintro e w2 ⟨rfl, rfl⟩))
  refine bodyPost_ret (v := .tuple #[.agg #[.int .i64 0, .int .i64 0, .int .i64 0, .int .i64 0, .slice none 0 0], .int .i64 5]) (by simp [results, Try.results12, go_sem, p0, p1, p2, p3, p4]) rfl ⟨none, 0, by rw [HV.out]; rfl, by rw [HV.out]; exact rbc_none _, below_five b1 (Nat.le_refl _) _ _ _ _ _⟩
end Go.Proofs.Ytepeoggacmaenaa
