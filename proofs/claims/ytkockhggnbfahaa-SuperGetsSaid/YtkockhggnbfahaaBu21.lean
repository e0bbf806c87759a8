/- Lemmas under the proofs of this place: SectRGet, DiskRRead, SupPPut. No statement is proved here. -/
import Derived.Test.YtkockhggnbfahaaBu19
import Derived.Test.YtkockhggnbfahaaBu12
import Derived.Test.YtkockhggnbfahaaBu18
import Derived.Test.YtkockhggnbfahaaBu20
section
set_option linter.unusedVariables false
namespace Go.Proofs.Ytkockhggnbfahaa
open Go.RowKit
theorem Try.secBuild0 (w : World) : Sem.run Try.prog (Instr.build 70 #[]) w = .ok (.agg #[.int .i64 0, .int .i64 0, .int .i64 0, .int .i64 0, .slice none 0 0]) w := by kernel_rfl
set_option maxRecDepth 100000 in
set_option maxHeartbeats 4000000 in
theorem rget_size (b : List UInt8) (n : Nat) (A : Option Addr) (c : Nat) (w : World) (hn : n = b.length) (h : n ≠ 64) :
    Calls Try.prog 40 #[.slice A n c] w (GivesSc (getS b) w) := by
  have HV : Hid (getS b = (.zero, 11)) := getS_size (by omega)
  have nb := fun w' => Try.secBuild0 w'
  have a24 := fun w' => Try.aggSec w'
  have s24 := fun w' => Try.sizeSec w'
  have d0 : (((n : Int) != 64)) = true := by simp; omega
  have d1 : ((n : Int) == 64) = false := by simp; omega
  clear hn h
  go_enter Try.func40, Try.ntmps40
  go_wp2
  refine bodyPost_ret (v := .tuple #[.agg #[.int .i64 0, .int .i64 0, .int .i64 0, .int .i64 0, .slice none 0 0], .int .i64 11]) (by simp [results, Try.results40, go_sem]) rfl ⟨none, 0, by rw [HV.out]; rfl, by rw [HV.out]; exact rbc_none _, (Below.refl _ _).alloc (Nat.le_refl _) _⟩
theorem below_five {w0 W : World} {B g : Nat} (h : Below B w0 W) (hg : B ≤ g) (v0 v1 v2 v3 v4 : Value) : Below B w0 (((((W.setCell ⟨g, 0, none⟩ v0).setCell ⟨g, 1, none⟩ v1).setCell ⟨g, 2, none⟩ v2).setCell ⟨g, 3, none⟩ v3).setCell ⟨g, 4, none⟩ v4) :=
  ((((h.setCell hg _).setCell hg _).setCell hg _).setCell hg _).setCell hg _
def ResAt (W : World) (g : Nat) : Prop := (W.cell? ⟨g, 0, none⟩ = some (.int .i64 0) ∧ W.cell? ⟨g, 1, none⟩ = some (.int .i64 0) ∧ W.cell? ⟨g, 2, none⟩ = some (.int .i64 0) ∧ W.cell? ⟨g, 3, none⟩ = some (.int .i64 0) ∧ W.cell? ⟨g, 4, none⟩ = some (.slice none 0 0)) ∧ W.frozen? ⟨g, 0, none⟩ = false ∧ W.frozen? ⟨g, 1, none⟩ = false ∧ W.frozen? ⟨g, 2, none⟩ = false ∧ W.frozen? ⟨g, 3, none⟩ = false ∧ W.frozen? ⟨g, 4, none⟩ = false
theorem res_at (w W : World) (hb : Below (w.alloc (.cells #[.int .i64 0, .int .i64 0, .int .i64 0, .int .i64 0, .slice none 0 0] 70)).heap.size (w.alloc (.cells #[.int .i64 0, .int .i64 0, .int .i64 0, .int .i64 0, .slice none 0 0] 70)) W) : ResAt W w.heap.size := by
  have h0 : Blk W w.heap.size 70 #[.int .i64 0, .int .i64 0, .int .i64 0, .int .i64 0, .slice none 0 0] := Blk.below (Blk.new w _ _) hb (by simp)
  exact ⟨⟨by rw [h0.cell]; rfl, by rw [h0.cell]; rfl, by rw [h0.cell]; rfl, by rw [h0.cell]; rfl, by rw [h0.cell]; rfl⟩, h0.frozen 0, h0.frozen 1, h0.frozen 2, h0.frozen 3, h0.frozen 4⟩
set_option maxRecDepth 100000 in
set_option maxHeartbeats 4000000 in
theorem rget_sum (b : List UInt8) (A : Option Addr) (c : Nat) (w : World) (h64 : b.length = 64) (hr : RB w w.heap.size A b) (hc : 64 ≤ c) (hcm : c ≤ 9223372036854775807) (ho : openL b = none) :
    Calls Try.prog 40 #[.slice A 64 c] w (GivesSc (getS b) w) := by
  have HV : Hid (getS b = (.zero, 12)) := getS_sum h64 ho
  have HO : Hid (∀ W, Below w.heap.size w W → Calls Try.prog 81 #[.slice A 64 c] W fun e w' => e = .returned (.tuple #[.slice none 0 0, .int .i64 12]) ∧ Below W.heap.size W w') := fun W hb => by
    have := refOpen_any b A c _ W (rb_up7 hr hb) (by omega) hcm (by omega)
    rw [ho, h64] at this
    exact this
  have HB : Hid (Below w.heap.size w (w.alloc (.cells #[.int .i64 0, .int .i64 0, .int .i64 0, .int .i64 0, .slice none 0 0] 70))) := (Below.refl _ _).alloc (Nat.le_refl _) _
  have HC := Lib.hid (fun W hb => res_at w W hb)
  have nb := fun w' => Try.secBuild0 w'
  have a24 := fun w' => Try.aggSec w'
  have s24 := fun w' => Try.sizeSec w'
  clear h64 hr hc hcm ho
  go_enter Try.func40, Try.ntmps40
  go_wp2_with (go_at_call 81; (with_reducible refine (HO.out _ HB.out).mono ?_); rintro e w1 ⟨rfl, hb1⟩; obtain ⟨⟨p0, p1, p2, p3, p4⟩, f0, f1, f2, f3, f4⟩ := HC.out _ hb1)
  refine bodyPost_ret (v := .tuple #[.agg #[.int .i64 0, .int .i64 0, .int .i64 0, .int .i64 0, .slice none 0 0], .int .i64 12]) (by simp [results, Try.results40, go_sem, p0, p1, p2, p3, p4]) rfl ⟨none, 0, by rw [HV.out]; rfl, by rw [HV.out]; exact rbc_none _, below_five (chain7 HB.out hb1) (Nat.le_refl _) _ _ _ _ _⟩
theorem refOpen_view (L M : List UInt8) (A : Option Addr) (c : Nat) (w : World) (hr : RB w w.heap.size A L) (hlc : L.length ≤ c) (hc : c ≤ 9223372036854775807) (hl : L.length ≤ 1048576) (ho : openL L = some M) :
    Calls Try.prog 81 #[.slice A L.length c] w fun e w' => e = .returned (.tuple #[.slice A M.length c, .int .i64 0]) ∧ Below w.heap.size w w' := by
  have h4 : ¬ L.length < 4 := fun h => by unfold openL at ho; rw [if_neg (by omega)] at ho; cases ho
  obtain ⟨n, hn⟩ : ∃ n, n = L.length - 4 := ⟨_, rfl⟩
  have hn4 : L.length = n + 4 := by omega
  have hp : (L.take n).length = n := by rw [List.length_take]; omega
  have hrp : RB w w.heap.size A (L.take n) := rb_take hr n (by omega)
  have hM : M.length = n := by have := (openL_some ho).2; omega
  have hse : sealL (L.take n) = L := by
    unfold openL at ho
    rw [← hn] at ho
    split at ho
    · rename_i h; exact h.2
    · cases ho
  rw [hn4, hM]
  refine refOpen_core n A c L (sealL (L.take n)) w (by omega) hc (sealL (L.take n) == L) hr hn4.symm (fun w e w' => e = .returned (.tuple #[.slice A n c, .int .i64 0]) ∧ Below w.heap.size w w') (fun W hb => ?_) rfl (fun hb w' h => ⟨rfl, h⟩) (fun hb w' h => ?_)
  · have := refSeal_any (L.take n) A c _ W (hrp.below hb) (by omega)
    rwa [hp] at this
  · rw [hse] at hb; simp at hb
theorem sub_rb {w : World} {B b0 o c : Nat} {M : List UInt8} (h : RB w B (some ⟨b0, o, none⟩) M) (k q : Nat) (hk : k + q ≤ M.length) (hc : M.length < c) : RB w B (some ⟨b0, o + k, none⟩) ((M.drop k).take q) := by
  have h2 := rb_cut1 h (k := k) (c := c) (by omega) (by omega) (by omega)
  simp only [Option.map_some, add_at] at h2
  exact rb_take h2 q (by rw [List.length_drop]; omega)
theorem unfix_ok {n : Nat} {L : List UInt8} (hl : L.length = n) (h1 : 1 ≤ n) (h4 : n ≤ 4) (h : unfixL L ≤ 2147483647) : unfixR L = (unfixL L, 0) := by unfold unfixR; rw [if_neg (by omega), if_neg (by omega)]
theorem unfix_bad {n : Nat} {L : List UInt8} (hl : L.length = n) (h1 : 1 ≤ n) (h4 : n ≤ 4) (h : ¬ unfixL L ≤ 2147483647) : unfixR L = (0, 5) := by unfold unfixR; rw [if_neg (by omega), if_pos (by omega)]
set_option maxRecDepth 100000 in
set_option maxHeartbeats 4000000 in
theorem rget_in1 (b M : List UInt8) (b0 o c : Nat) (w : World) (h64 : b.length = 64) (hr : RB w w.heap.size (some ⟨b0, o, none⟩) b) (hc : 64 ≤ c) (hcm : c ≤ 9223372036854775807) (ho : openL b = some M) (h1 : ¬ unfixL ((M.drop 4).take 4) ≤ 2147483647) :
    Calls Try.prog 40 #[.slice (some ⟨b0, o, none⟩) 64 c] w (GivesSc (getS b) w) := by
  have hM60 : M.length = 60 := by have := (openL_some ho).2; omega
  have hMb : M = b.take 60 := by
    have h1 := (openL_some ho).1
    rw [h1]; unfold sealL; rw [List.take_append_of_le_length (by omega), List.take_of_length_le (by omega)]
  have hrM : RB w w.heap.size (some ⟨b0, o, none⟩) M := by rw [hMb]; exact rb_take hr 60 (by omega)
  have HO : Hid (∀ W, Below w.heap.size w W → Calls Try.prog 81 #[.slice (some ⟨b0, o, none⟩) 64 c] W fun e w' => e = .returned (.tuple #[.slice (some ⟨b0, o, none⟩) 60 c, .int .i64 0]) ∧ Below W.heap.size W w') := fun W hb => by
    have := refOpen_view b M (some ⟨b0, o, none⟩) c W (rb_up7 hr hb) (by omega) hcm (by omega) ho
    rw [h64, hM60] at this
    exact this
  obtain ⟨lv, hlv⟩ : ∃ x, x = unfixL ((M.drop 2).take 2) := ⟨_, rfl⟩
  obtain ⟨ev, hev⟩ : ∃ x, x = unfixL ((M.drop 4).take 4) := ⟨_, rfl⟩
  obtain ⟨nv, hnv⟩ : ∃ x, x = unfixL ((M.drop 8).take 4) := ⟨_, rfl⟩
  obtain ⟨kd, hkd⟩ : ∃ x, x = (M.getD 0 0).toNat := ⟨_, rfl⟩
  obtain ⟨nn, hnn⟩ : ∃ x, x = (M.getD 1 0).toNat := ⟨_, rfl⟩
  have lvs : lv ≤ 65535 := by
    have := unfixL_lt ((M.drop 2).take 2)
    have hl : ((M.drop 2).take 2).length = 2 := by rw [List.length_take, List.length_drop]; omega
    rw [hl] at this
    have e : (256 : Nat) ^ 2 = 65536 := rfl
    omega
  have hnn256 : nn < 256 := by rw [hnn]; exact (M.getD 1 0).toNat_lt
  have hkd256 : kd < 256 := by rw [hkd]; exact (M.getD 0 0).toNat_lt
  have HU : Hid (∀ W (k q : Nat) (r : Nat × Nat), Below w.heap.size w W → k + q ≤ 60 → 1 ≤ q → q ≤ 4 → unfixR ((M.drop k).take q) = r → Calls Try.prog 41 #[.slice (some ⟨b0, o + k, none⟩) q (c - k)] W fun e w' => e = .returned (.tuple #[.int .i64 (r.1 : Int), .int .i64 (r.2 : Int)]) ∧ W = w') := fun W k q r hb h1 h2 h3 hq => by
    have hl : ((M.drop k).take q).length = q := by rw [List.length_take, List.length_drop]; omega
    have := refUnfix_any ((M.drop k).take q) (some ⟨b0, o + k, none⟩) (c - k) _ W (sub_rb (hrM.below hb) k q (by omega) (show M.length < c by omega)) (by omega)
    rw [hl, hq] at this
    exact this
  have l2 : ((M.drop 2).take 2).length = 2 := by rw [List.length_take, List.length_drop]; omega
  have l4 : ((M.drop 4).take 4).length = 4 := by rw [List.length_take, List.length_drop]; omega
  have l8 : ((M.drop 8).take 4).length = 4 := by rw [List.length_take, List.length_drop]; omega
  have HU1 : Hid (∀ W, Below w.heap.size w W → Calls Try.prog 41 #[.slice (some ⟨b0, o + 2, none⟩) 2 (c - 2)] W fun e w' => e = .returned (.tuple #[.int .i64 (lv : Int), .int .i64 0]) ∧ W = w') := fun W hb => by
    rw [hlv]; exact HU.out W 2 2 (_, 0) hb (by omega) (by omega) (by omega) (unfix_ok l2 (by omega) (by omega) (by omega))
  have HCell : Hid (∀ W, Below w.heap.size w W → W.cell? ⟨b0, o, none⟩ = some (.int .u8 (kd : Int)) ∧ W.cell? ⟨b0, o + 1, none⟩ = some (.int .u8 (nn : Int))) := fun W hb => by
    obtain ⟨b', o', e, _, hcc⟩ := (hrM.below hb).at_ (by omega)
    simp only [Option.some.injEq, Addr.mk.injEq, and_true] at e
    obtain ⟨rfl, rfl⟩ := e
    have c0 := hcc 0 (by omega)
    have c1 := hcc 1 (by omega)
    refine ⟨?_, ?_⟩
    · rw [Nat.add_zero] at c0
      rw [c0, hkd]; simp [List.getD, List.getElem?_eq_getElem (show 0 < M.length by omega)]
    · rw [c1, hnn]; simp [List.getD, List.getElem?_eq_getElem (show 1 < M.length by omega)]
  have HB : Hid (Below w.heap.size w (w.alloc (.cells #[.int .i64 0, .int .i64 0, .int .i64 0, .int .i64 0, .slice none 0 0] 70))) := (Below.refl _ _).alloc (Nat.le_refl _) _
  have HC := Lib.hid (fun W hb => res_at w W hb)
  have nb := fun w' => Try.secBuild0 w'
  have a24 := fun w' => Try.aggSec w'
  have s24 := fun w' => Try.sizeSec w'
  have k1 := fun W => sl_both b0 o 60 c 2 4 2 4 rfl rfl (by omega) (by omega) (by omega) W
  have k2 := fun W => sl_both b0 o 60 c 4 8 4 8 rfl rfl (by omega) (by omega) (by omega) W
  have k3 := fun W => sl_both b0 o 60 c 8 12 8 12 rfl rfl (by omega) (by omega) (by omega) W
  simp only [Nat.reduceSub] at k1 k2 k3
  have HV : Hid (getS b = (.zero, 5)) := getS_form h64 ho (fun hF => by have := hF.epoch; omega)
  have HU2 : Hid (∀ W, Below w.heap.size w W → Calls Try.prog 41 #[.slice (some ⟨b0, o + 4, none⟩) 4 (c - 4)] W fun e w' => e = .returned (.tuple #[.int .i64 0, .int .i64 5]) ∧ W = w') := fun W hb =>
    HU.out W 4 4 (0, 5) hb (by omega) (by omega) (by omega) (unfix_bad l4 (by omega) (by omega) (by omega))
  have HU3 : Hid (∃ x y : Nat, ∀ W, Below w.heap.size w W → Calls Try.prog 41 #[.slice (some ⟨b0, o + 8, none⟩) 4 (c - 8)] W fun e w' => e = .returned (.tuple #[.int .i64 (x : Int), .int .i64 (y : Int)]) ∧ W = w') := ⟨_, _, fun W hb => HU.out W 8 4 _ hb (by omega) (by omega) (by omega) rfl⟩
  obtain ⟨x, y, HU3⟩ := HU3.out
  have HU3 := Lib.hid HU3
  clear hM60 hMb hrM h64 hr hcm ho hlv hev hnv hkd hnn lvs l2 l4 l8 HU h1
  go_enter Try.func40, Try.ntmps40
  go_wp2_with (first
    | (go_at_call 81; (with_reducible refine (HO.out _ HB.out).mono ?_); rintro e w1 ⟨rfl, hb1⟩; obtain ⟨⟨p0, p1, p2, p3, p4⟩, f0, f1, f2, f3, f4⟩ := HC.out _ hb1; have b1 := chain7 HB.out hb1; obtain ⟨q0, q1⟩ := HCell.out _ b1)
    | (go_at_call 41; (with_reducible refine (HU1.out _ b1).mono ?_); rintro e w2 ⟨rfl, rfl⟩)
    | (go_at_call 41; (with_reducible refine (HU2.out _ b1).mono ?_); rintro e w2 ⟨rfl, rfl⟩)
    | (go_at_call 41; (with_reducible refine (HU3.out _ b1).mono ?_); rintro e w2 ⟨rfl, rfl⟩))
  refine bodyPost_ret (v := .tuple #[.agg #[.int .i64 0, .int .i64 0, .int .i64 0, .int .i64 0, .slice none 0 0], .int .i64 5]) (by simp [results, Try.results40, go_sem, p0, p1, p2, p3, p4]) rfl ⟨none, 0, by rw [HV.out]; rfl, by rw [HV.out]; exact rbc_none _, below_five b1 (Nat.le_refl _) _ _ _ _ _⟩
set_option maxRecDepth 100000 in
set_option maxHeartbeats 4000000 in
theorem rget_in2 (b M : List UInt8) (b0 o c : Nat) (w : World) (h64 : b.length = 64) (hr : RB w w.heap.size (some ⟨b0, o, none⟩) b) (hc : 64 ≤ c) (hcm : c ≤ 9223372036854775807) (ho : openL b = some M) (h1 : unfixL ((M.drop 4).take 4) ≤ 2147483647) (h2 : ¬ unfixL ((M.drop 8).take 4) ≤ 2147483647) :
    Calls Try.prog 40 #[.slice (some ⟨b0, o, none⟩) 64 c] w (GivesSc (getS b) w) := by
  have hM60 : M.length = 60 := by have := (openL_some ho).2; omega
  have hMb : M = b.take 60 := by
    have h1 := (openL_some ho).1
    rw [h1]; unfold sealL; rw [List.take_append_of_le_length (by omega), List.take_of_length_le (by omega)]
  have hrM : RB w w.heap.size (some ⟨b0, o, none⟩) M := by rw [hMb]; exact rb_take hr 60 (by omega)
  have HO : Hid (∀ W, Below w.heap.size w W → Calls Try.prog 81 #[.slice (some ⟨b0, o, none⟩) 64 c] W fun e w' => e = .returned (.tuple #[.slice (some ⟨b0, o, none⟩) 60 c, .int .i64 0]) ∧ Below W.heap.size W w') := fun W hb => by
    have := refOpen_view b M (some ⟨b0, o, none⟩) c W (rb_up7 hr hb) (by omega) hcm (by omega) ho
    rw [h64, hM60] at this
    exact this
  obtain ⟨lv, hlv⟩ : ∃ x, x = unfixL ((M.drop 2).take 2) := ⟨_, rfl⟩
  obtain ⟨ev, hev⟩ : ∃ x, x = unfixL ((M.drop 4).take 4) := ⟨_, rfl⟩
  obtain ⟨nv, hnv⟩ : ∃ x, x = unfixL ((M.drop 8).take 4) := ⟨_, rfl⟩
  obtain ⟨kd, hkd⟩ : ∃ x, x = (M.getD 0 0).toNat := ⟨_, rfl⟩
  obtain ⟨nn, hnn⟩ : ∃ x, x = (M.getD 1 0).toNat := ⟨_, rfl⟩
  have lvs : lv ≤ 65535 := by
    have := unfixL_lt ((M.drop 2).take 2)
    have hl : ((M.drop 2).take 2).length = 2 := by rw [List.length_take, List.length_drop]; omega
    rw [hl] at this
    have e : (256 : Nat) ^ 2 = 65536 := rfl
    omega
  have hnn256 : nn < 256 := by rw [hnn]; exact (M.getD 1 0).toNat_lt
  have hkd256 : kd < 256 := by rw [hkd]; exact (M.getD 0 0).toNat_lt
  have HU : Hid (∀ W (k q : Nat) (r : Nat × Nat), Below w.heap.size w W → k + q ≤ 60 → 1 ≤ q → q ≤ 4 → unfixR ((M.drop k).take q) = r → Calls Try.prog 41 #[.slice (some ⟨b0, o + k, none⟩) q (c - k)] W fun e w' => e = .returned (.tuple #[.int .i64 (r.1 : Int), .int .i64 (r.2 : Int)]) ∧ W = w') := fun W k q r hb h1 h2 h3 hq => by
    have hl : ((M.drop k).take q).length = q := by rw [List.length_take, List.length_drop]; omega
    have := refUnfix_any ((M.drop k).take q) (some ⟨b0, o + k, none⟩) (c - k) _ W (sub_rb (hrM.below hb) k q (by omega) (show M.length < c by omega)) (by omega)
    rw [hl, hq] at this
    exact this
  have l2 : ((M.drop 2).take 2).length = 2 := by rw [List.length_take, List.length_drop]; omega
  have l4 : ((M.drop 4).take 4).length = 4 := by rw [List.length_take, List.length_drop]; omega
  have l8 : ((M.drop 8).take 4).length = 4 := by rw [List.length_take, List.length_drop]; omega
  have HU1 : Hid (∀ W, Below w.heap.size w W → Calls Try.prog 41 #[.slice (some ⟨b0, o + 2, none⟩) 2 (c - 2)] W fun e w' => e = .returned (.tuple #[.int .i64 (lv : Int), .int .i64 0]) ∧ W = w') := fun W hb => by
    rw [hlv]; exact HU.out W 2 2 (_, 0) hb (by omega) (by omega) (by omega) (unfix_ok l2 (by omega) (by omega) (by omega))
  have HCell : Hid (∀ W, Below w.heap.size w W → W.cell? ⟨b0, o, none⟩ = some (.int .u8 (kd : Int)) ∧ W.cell? ⟨b0, o + 1, none⟩ = some (.int .u8 (nn : Int))) := fun W hb => by
    obtain ⟨b', o', e, _, hcc⟩ := (hrM.below hb).at_ (by omega)
    simp only [Option.some.injEq, Addr.mk.injEq, and_true] at e
    obtain ⟨rfl, rfl⟩ := e
    have c0 := hcc 0 (by omega)
    have c1 := hcc 1 (by omega)
    refine ⟨?_, ?_⟩
    · rw [Nat.add_zero] at c0
      rw [c0, hkd]; simp [List.getD, List.getElem?_eq_getElem (show 0 < M.length by omega)]
    · rw [c1, hnn]; simp [List.getD, List.getElem?_eq_getElem (show 1 < M.length by omega)]
  have HB : Hid (Below w.heap.size w (w.alloc (.cells #[.int .i64 0, .int .i64 0, .int .i64 0, .int .i64 0, .slice none 0 0] 70))) := (Below.refl _ _).alloc (Nat.le_refl _) _
  have HC := Lib.hid (fun W hb => res_at w W hb)
  have nb := fun w' => Try.secBuild0 w'
  have a24 := fun w' => Try.aggSec w'
  have s24 := fun w' => Try.sizeSec w'
  have k1 := fun W => sl_both b0 o 60 c 2 4 2 4 rfl rfl (by omega) (by omega) (by omega) W
  have k2 := fun W => sl_both b0 o 60 c 4 8 4 8 rfl rfl (by omega) (by omega) (by omega) W
  have k3 := fun W => sl_both b0 o 60 c 8 12 8 12 rfl rfl (by omega) (by omega) (by omega) W
  simp only [Nat.reduceSub] at k1 k2 k3
  have HV : Hid (getS b = (.zero, 5)) := getS_form h64 ho (fun hF => by have := hF.number; omega)
  have HU2 : Hid (∀ W, Below w.heap.size w W → Calls Try.prog 41 #[.slice (some ⟨b0, o + 4, none⟩) 4 (c - 4)] W fun e w' => e = .returned (.tuple #[.int .i64 (ev : Int), .int .i64 0]) ∧ W = w') := fun W hb => by
    rw [hev]; exact HU.out W 4 4 (_, 0) hb (by omega) (by omega) (by omega) (unfix_ok l4 (by omega) (by omega) (by omega))
  have HU3 : Hid (∀ W, Below w.heap.size w W → Calls Try.prog 41 #[.slice (some ⟨b0, o + 8, none⟩) 4 (c - 8)] W fun e w' => e = .returned (.tuple #[.int .i64 0, .int .i64 5]) ∧ W = w') := fun W hb =>
    HU.out W 8 4 (0, 5) hb (by omega) (by omega) (by omega) (unfix_bad l8 (by omega) (by omega) (by omega))
  clear hM60 hMb hrM h64 hr hcm ho hlv hev hnv hkd hnn lvs l2 l4 l8 HU h1 h2
  go_enter Try.func40, Try.ntmps40
  go_wp2_with (first
    | (go_at_call 81; (with_reducible refine (HO.out _ HB.out).mono ?_); rintro e w1 ⟨rfl, hb1⟩; obtain ⟨⟨p0, p1, p2, p3, p4⟩, f0, f1, f2, f3, f4⟩ := HC.out _ hb1; have b1 := chain7 HB.out hb1; obtain ⟨q0, q1⟩ := HCell.out _ b1)
    | (go_at_call 41; (with_reducible refine (HU1.out _ b1).mono ?_); rintro e w2 ⟨rfl, rfl⟩)
    | (go_at_call 41; (with_reducible refine (HU2.out _ b1).mono ?_); rintro e w2 ⟨rfl, rfl⟩)
    | (go_at_call 41; (with_reducible refine (HU3.out _ b1).mono ?_); rintro e w2 ⟨rfl, rfl⟩))
  refine bodyPost_ret (v := .tuple #[.agg #[.int .i64 0, .int .i64 0, .int .i64 0, .int .i64 0, .slice none 0 0], .int .i64 5]) (by simp [results, Try.results40, go_sem, p0, p1, p2, p3, p4]) rfl ⟨none, 0, by rw [HV.out]; rfl, by rw [HV.out]; exact rbc_none _, below_five b1 (Nat.le_refl _) _ _ _ _ _⟩
set_option maxRecDepth 100000 in
set_option maxHeartbeats 4000000 in
theorem rget_in3 (b M : List UInt8) (b0 o c : Nat) (w : World) (h64 : b.length = 64) (hr : RB w w.heap.size (some ⟨b0, o, none⟩) b) (hc : 64 ≤ c) (hcm : c ≤ 9223372036854775807) (ho : openL b = some M) (h1 : unfixL ((M.drop 4).take 4) ≤ 2147483647) (h2 : unfixL ((M.drop 8).take 4) ≤ 2147483647) (h3 : ¬ (M.getD 1 0).toNat ≤ 48) :
    Calls Try.prog 40 #[.slice (some ⟨b0, o, none⟩) 64 c] w (GivesSc (getS b) w) := by
  have hM60 : M.length = 60 := by have := (openL_some ho).2; omega
  have hMb : M = b.take 60 := by
    have h1 := (openL_some ho).1
    rw [h1]; unfold sealL; rw [List.take_append_of_le_length (by omega), List.take_of_length_le (by omega)]
  have hrM : RB w w.heap.size (some ⟨b0, o, none⟩) M := by rw [hMb]; exact rb_take hr 60 (by omega)
  have HO : Hid (∀ W, Below w.heap.size w W → Calls Try.prog 81 #[.slice (some ⟨b0, o, none⟩) 64 c] W fun e w' => e = .returned (.tuple #[.slice (some ⟨b0, o, none⟩) 60 c, .int .i64 0]) ∧ Below W.heap.size W w') := fun W hb => by
    have := refOpen_view b M (some ⟨b0, o, none⟩) c W (rb_up7 hr hb) (by omega) hcm (by omega) ho
    rw [h64, hM60] at this
    exact this
  obtain ⟨lv, hlv⟩ : ∃ x, x = unfixL ((M.drop 2).take 2) := ⟨_, rfl⟩
  obtain ⟨ev, hev⟩ : ∃ x, x = unfixL ((M.drop 4).take 4) := ⟨_, rfl⟩
  obtain ⟨nv, hnv⟩ : ∃ x, x = unfixL ((M.drop 8).take 4) := ⟨_, rfl⟩
  obtain ⟨kd, hkd⟩ : ∃ x, x = (M.getD 0 0).toNat := ⟨_, rfl⟩
  obtain ⟨nn, hnn⟩ : ∃ x, x = (M.getD 1 0).toNat := ⟨_, rfl⟩
  have lvs : lv ≤ 65535 := by
    have := unfixL_lt ((M.drop 2).take 2)
    have hl : ((M.drop 2).take 2).length = 2 := by rw [List.length_take, List.length_drop]; omega
    rw [hl] at this
    have e : (256 : Nat) ^ 2 = 65536 := rfl
    omega
  have hnn256 : nn < 256 := by rw [hnn]; exact (M.getD 1 0).toNat_lt
  have hkd256 : kd < 256 := by rw [hkd]; exact (M.getD 0 0).toNat_lt
  have HU : Hid (∀ W (k q : Nat) (r : Nat × Nat), Below w.heap.size w W → k + q ≤ 60 → 1 ≤ q → q ≤ 4 → unfixR ((M.drop k).take q) = r → Calls Try.prog 41 #[.slice (some ⟨b0, o + k, none⟩) q (c - k)] W fun e w' => e = .returned (.tuple #[.int .i64 (r.1 : Int), .int .i64 (r.2 : Int)]) ∧ W = w') := fun W k q r hb h1 h2 h3 hq => by
    have hl : ((M.drop k).take q).length = q := by rw [List.length_take, List.length_drop]; omega
    have := refUnfix_any ((M.drop k).take q) (some ⟨b0, o + k, none⟩) (c - k) _ W (sub_rb (hrM.below hb) k q (by omega) (show M.length < c by omega)) (by omega)
    rw [hl, hq] at this
    exact this
  have l2 : ((M.drop 2).take 2).length = 2 := by rw [List.length_take, List.length_drop]; omega
  have l4 : ((M.drop 4).take 4).length = 4 := by rw [List.length_take, List.length_drop]; omega
  have l8 : ((M.drop 8).take 4).length = 4 := by rw [List.length_take, List.length_drop]; omega
  have HU1 : Hid (∀ W, Below w.heap.size w W → Calls Try.prog 41 #[.slice (some ⟨b0, o + 2, none⟩) 2 (c - 2)] W fun e w' => e = .returned (.tuple #[.int .i64 (lv : Int), .int .i64 0]) ∧ W = w') := fun W hb => by
    rw [hlv]; exact HU.out W 2 2 (_, 0) hb (by omega) (by omega) (by omega) (unfix_ok l2 (by omega) (by omega) (by omega))
  have HCell : Hid (∀ W, Below w.heap.size w W → W.cell? ⟨b0, o, none⟩ = some (.int .u8 (kd : Int)) ∧ W.cell? ⟨b0, o + 1, none⟩ = some (.int .u8 (nn : Int))) := fun W hb => by
    obtain ⟨b', o', e, _, hcc⟩ := (hrM.below hb).at_ (by omega)
    simp only [Option.some.injEq, Addr.mk.injEq, and_true] at e
    obtain ⟨rfl, rfl⟩ := e
    have c0 := hcc 0 (by omega)
    have c1 := hcc 1 (by omega)
    refine ⟨?_, ?_⟩
    · rw [Nat.add_zero] at c0
      rw [c0, hkd]; simp [List.getD, List.getElem?_eq_getElem (show 0 < M.length by omega)]
    · rw [c1, hnn]; simp [List.getD, List.getElem?_eq_getElem (show 1 < M.length by omega)]
  have HB : Hid (Below w.heap.size w (w.alloc (.cells #[.int .i64 0, .int .i64 0, .int .i64 0, .int .i64 0, .slice none 0 0] 70))) := (Below.refl _ _).alloc (Nat.le_refl _) _
  have HC := Lib.hid (fun W hb => res_at w W hb)
  have nb := fun w' => Try.secBuild0 w'
  have a24 := fun w' => Try.aggSec w'
  have s24 := fun w' => Try.sizeSec w'
  have k1 := fun W => sl_both b0 o 60 c 2 4 2 4 rfl rfl (by omega) (by omega) (by omega) W
  have k2 := fun W => sl_both b0 o 60 c 4 8 4 8 rfl rfl (by omega) (by omega) (by omega) W
  have k3 := fun W => sl_both b0 o 60 c 8 12 8 12 rfl rfl (by omega) (by omega) (by omega) W
  simp only [Nat.reduceSub] at k1 k2 k3
  have HV : Hid (getS b = (.zero, 5)) := getS_form h64 ho (fun hF => by have := hF.len; omega)
  have HU2 : Hid (∀ W, Below w.heap.size w W → Calls Try.prog 41 #[.slice (some ⟨b0, o + 4, none⟩) 4 (c - 4)] W fun e w' => e = .returned (.tuple #[.int .i64 (ev : Int), .int .i64 0]) ∧ W = w') := fun W hb => by
    rw [hev]; exact HU.out W 4 4 (_, 0) hb (by omega) (by omega) (by omega) (unfix_ok l4 (by omega) (by omega) (by omega))
  have HU3 : Hid (∀ W, Below w.heap.size w W → Calls Try.prog 41 #[.slice (some ⟨b0, o + 8, none⟩) 4 (c - 8)] W fun e w' => e = .returned (.tuple #[.int .i64 (nv : Int), .int .i64 0]) ∧ W = w') := fun W hb => by
    rw [hnv]; exact HU.out W 8 4 (_, 0) hb (by omega) (by omega) (by omega) (unfix_ok l8 (by omega) (by omega) (by omega))
  have d0 : decide ((48 : Int) < (nn : Int)) = true := decide_eq_true (by omega)
  have d1 : decide ((nn : Int) > 48) = true := decide_eq_true (by omega)
  have d2 : decide (48 < nn) = true := decide_eq_true (by omega)
  clear hM60 hMb hrM h64 hr hcm ho hlv hev hnv hkd hnn lvs l2 l4 l8 HU h1 h2 h3
  go_enter Try.func40, Try.ntmps40
  go_wp2_with (first
    | (go_at_call 81; (with_reducible refine (HO.out _ HB.out).mono ?_); rintro e w1 ⟨rfl, hb1⟩; obtain ⟨⟨p0, p1, p2, p3, p4⟩, f0, f1, f2, f3, f4⟩ := HC.out _ hb1; have b1 := chain7 HB.out hb1; obtain ⟨q0, q1⟩ := HCell.out _ b1)
    | (go_at_call 41; (with_reducible refine (HU1.out _ b1).mono ?_); rintro e w2 ⟨rfl, rfl⟩)
    | (go_at_call 41; (with_reducible refine (HU2.out _ b1).mono ?_); rintro e w2 ⟨rfl, rfl⟩)
    | (go_at_call 41; (with_reducible refine (HU3.out _ b1).mono ?_); rintro e w2 ⟨rfl, rfl⟩))
  refine bodyPost_ret (v := .tuple #[.agg #[.int .i64 0, .int .i64 0, .int .i64 0, .int .i64 0, .slice none 0 0], .int .i64 5]) (by simp [results, Try.results40, go_sem, p0, p1, p2, p3, p4]) rfl ⟨none, 0, by rw [HV.out]; rfl, by rw [HV.out]; exact rbc_none _, below_five b1 (Nat.le_refl _) _ _ _ _ _⟩
end Go.Proofs.Ytkockhggnbfahaa
end
section
set_option linter.unusedVariables false
namespace Go.Proofs.Ytkockhggnbfahaa
open Go.RowKit
def RReadPost (d : Dk) (i : Int) (g : Nat) (G B : Nat → Prop) (w : World) (e : Ending) (w' : World) : Prop :=
  ∃ A c, e = .returned (.tuple #[.slice A (d.read i).2.1.length c, .int .i64 (d.read i).2.2]) ∧ Own w' w.heap.size A (d.read i).2.1 c ∧ RSame (d.read i).1 G B w w' g
set_option maxRecDepth 100000 in
set_option maxHeartbeats 2000000 in
theorem rread_any {w : World} {g : Nat} {G B : Nat → Prop} {d : Dk} (h : RDisk w g G B d) (i : Int) (hl : d.load ≤ 100000) :
    Calls Try.prog 45 #[.pointer (some ⟨g, 0, none⟩), .int .i64 i] w (RReadPost d i g G B w) := by
  have HT := Lib.hid (there_any h i)
  have n0 := fun w' => Try.notTrue w'
  have n1 := fun w' => Try.notFalse w'
  have r3 : w.cell? ⟨g, 3, none⟩ = some (.bool d.off) := by obtain ⟨s, cs, V, hs, hv, h⟩ := h; exact h.r3
  cases ho : d.off with
  | true =>
    have HV : Hid (d.read i = (d, [], 9)) := by show _ = _; unfold Dk.read; rw [if_pos ho]
    rw [ho] at r3
    clear ho
    go_enter Try.func45, Try.ntmps45
    go_wp2
    go_ret2
    unfold RReadPost
    rw [HV.out]
    exact ⟨none, 0, rfl, World.ownsRow_nil _ _ _ _, h, Turns.refl _ _⟩
  | false =>
    rw [ho] at r3
    cases ht : d.there i with
    | false =>
      have HV : Hid (d.read i = (d, [], 10)) := by show _ = _; unfold Dk.read; rw [ho, ht]; rfl
      rw [ht] at HT
      clear ho ht
      go_enter Try.func45, Try.ntmps45
      go_wp2_with (go_at_call 82; (with_reducible refine HT.out.mono ?_); rintro e w1 ⟨rfl, rfl⟩)
      go_ret2
      unfold RReadPost
      rw [HV.out]
      exact ⟨none, 0, rfl, World.ownsRow_nil _ _ _ _, h, Turns.refl _ _⟩
    | true =>
      have HV : Hid (d.read i = ({ d with reads := d.reads + 1 }, d.now i.toNat, 0)) := by show _ = _; unfold Dk.read; rw [ho, ht]; rfl
      rw [ht] at HT
      obtain ⟨k, rfl, hk⟩ := there_nat ht
      rw [Int.toNat_natCast] at HV
      obtain ⟨i0, hi0, hz0, hz1, hz2⟩ := info_parts Try.info5
      obtain ⟨s, cs, V, hs, hv, h⟩ := h
      obtain ⟨y, hy⟩ : ∃ y : Int, y = ((d.reads + 1 : Nat) : Int) := ⟨_, rfl⟩
      obtain ⟨x, hx⟩ : ∃ x : Int, x = (d.reads : Int) := ⟨_, rfl⟩
      have e1 : IntKind.i64.wrap (x + 1) = y := by
        have h1 := IntWalk.i64_in ((d.reads : Int) + 1) (by unfold Dk.load at hl; omega)
        rw [hx, hy, h1]; omega
      have r4 := h.r4
      have f4 := h.fz 4
      rw [← hx] at r4
      have HP : Hid (RDisk (w.setCell ⟨g, 4, none⟩ (.int .i64 y)) g G B { d with reads := d.reads + 1 }) := by
        refine ⟨s, cs, V, hs, hv, h.retell (turns_own w g 4 _) rfl rfl h.good.left ?_⟩
        have := h.blk.set_ 4 (.int .i64 y)
        rw [hy] at this ⊢
        exact this
      have HN : Hid (∀ W, Below (w.setCell ⟨g, 4, none⟩ (.int .i64 y)).heap.size (w.setCell ⟨g, 4, none⟩ (.int .i64 y)) W → Calls Try.prog 83 #[.pointer (some ⟨g, 0, none⟩), .int .i64 (k : Int)] W fun e w' => (∃ b off c, e = .returned (.slice (some ⟨b, off, none⟩) 256 c) ∧ Hid (RB W W.heap.size (some ⟨b, off, none⟩) (d.now k))) ∧ W = w') := fun W hb => by
        refine (now_any (HP.out.below hb) k hk (by show d.waits.length ≤ 1000000; unfold Dk.load at hl; omega)).mono ?_
        rintro e w' ⟨⟨v, rfl, _, b, off, c, rfl, _, _, _, hr⟩, rfl⟩
        exact ⟨⟨b, off, c, rfl, hr⟩, rfl⟩
      have HG := Lib.hid h.gg
      have hnl : (d.now k).length = 256 := Dk.fit_now h.good.fit hk
      obtain ⟨L, hL⟩ : ∃ L, L = d.now k := ⟨_, rfl⟩
      rw [← hL] at HV HN hnl
      have Hnl := Lib.hid hnl
      obtain ⟨W, hW⟩ : ∃ W, W = w.setCell ⟨g, 4, none⟩ (.int .i64 y) := ⟨_, rfl⟩
      have HT2 : Hid (Turns w W G G) := by show Turns _ _ _ _; rw [hW]; exact Turns.set_ HG.out 4 _
      have hz : W.heap.size = w.heap.size := by rw [hW]; simp [World.setCell]
      rw [← hW] at HP HN
      have HWq := Lib.hid hW
      have HZ := Lib.hid hz
      have HMd : Hid ((W.alloc (.cells #[] 5)).ownsRow w.heap.size 5 1 (.slice (some ⟨w.heap.size, 0, none⟩) 0 0) 0 []) := by
        show World.ownsRow _ _ _ _ _ _ _
        rw [← hz]; exact World.ownsRow_made W #[] 0 (Nat.le_refl _) (by decide) rfl
      clear h ho ht hk hl hx hy hL hW hz hnl
      go_enter Try.func45, Try.ntmps45
      go_wp2_with (go_at_call 82; (with_reducible refine HT.out.mono ?_); rintro e w1 ⟨rfl, rfl⟩)
      rw [← HWq.out]
      have hbA : Below W.heap.size W (W.alloc (.cells #[] 5)) := (Below.refl _ _).alloc (Nat.le_refl _) _
      go_wp2_with (first
        | (go_at_call 83; (with_reducible refine (HN.out _ hbA).mono ?_); rintro e w2 ⟨⟨b, off, c, rfl, hR⟩, rfl⟩)
        | (at_builtin; refine wpList_append_any _ rfl (.tmp 25) (.tmp 28) _ rfl w.heap.size 5 i0 _ 1 1 Try.underlying26 hi0 hz0 hz1 hz2 rfl (by omega) (.slice (some ⟨w.heap.size, 0, none⟩) 0 0) 0 [] rfl HMd.out _ (some ⟨b, off, none⟩) 256 c (cells L) rfl (by have := hR.out; unfold RB at this; rw [Hnl.out] at this; exact this) (cells_one _) (by simp only [maxLen]; omega) (by omega) (by have := HZ.out; simp; omega) ?_; intro v5 w5 ho5 hg5 hat5; simp only [Nat.zero_add, List.nil_append] at ho5; have hb5 : Below W.heap.size W w5 := hbA.grown hg5 (by simp) (by have := HZ.out; simp [Value.ownBlock]; omega)))
      obtain ⟨A3, c3, hv⟩ := own_form ho5
      subst hv
      go_ret2
      unfold RReadPost
      rw [HV.out]
      refine ⟨A3, c3, by simp only [Hnl.out]; rfl, ?_, HP.out.below hb5, HT2.out.trans (Turns.of_below hb5 G)⟩
      unfold Own
      simp only [Hnl.out]
      exact ho5
end Go.Proofs.Ytkockhggnbfahaa
end
section
set_option linter.unusedVariables false
set_option linter.unusedSimpArgs false
namespace Go.Proofs.Ytkockhggnbfahaa
open Go.RowKit
theorem Try.arr4 (a b c d : Int) (w : World) : Sem.run Try.prog (Instr.build 66 #[(0, .int .i64 a), (1, .int .i64 b), (2, .int .i64 c), (3, .int .i64 d)]) w = .ok (.agg #[.int .i64 a, .int .i64 b, .int .i64 c, .int .i64 d]) w := by kernel_rfl
theorem Try.at4_0 (a b c d : Int) (w : World) : Sem.run Try.prog (Instr.index 66 (.agg #[.int .i64 a, .int .i64 b, .int .i64 c, .int .i64 d]) (.int .i64 0)) w = .ok (.int .i64 a) w := by kernel_rfl
theorem Try.at4_1 (a b c d : Int) (w : World) : Sem.run Try.prog (Instr.index 66 (.agg #[.int .i64 a, .int .i64 b, .int .i64 c, .int .i64 d]) (.int .i64 1)) w = .ok (.int .i64 b) w := by kernel_rfl
theorem Try.at4_2 (a b c d : Int) (w : World) : Sem.run Try.prog (Instr.index 66 (.agg #[.int .i64 a, .int .i64 b, .int .i64 c, .int .i64 d]) (.int .i64 2)) w = .ok (.int .i64 c) w := by kernel_rfl
theorem Try.at4_3 (a b c d : Int) (w : World) : Sem.run Try.prog (Instr.index 66 (.agg #[.int .i64 a, .int .i64 b, .int .i64 c, .int .i64 d]) (.int .i64 3)) w = .ok (.int .i64 d) w := by kernel_rfl
set_option maxRecDepth 100000 in
set_option maxHeartbeats 4000000 in
theorem supput_no (s : Pu) (w : World) (h : s.may = false) :
    Calls Try.prog 7 #[supV s] w fun e w' => e = .returned (.tuple #[.slice none 0 0, .int .i64 1]) ∧ Below w.heap.size w w' := by
  have HM : Hid (∀ W, Calls Try.prog 10 #[supV s] W fun e w' => e = .returned (.int .i64 1) ∧ Below W.heap.size W w') := fun W => by
    have h1 := scheck_any s W
    rw [h] at h1
    exact h1
  have HB : Hid (Below w.heap.size w (w.alloc (.cells #[.int .i64 s.gen, .int .i64 s.blocks, .int .i64 s.log, .int .i64 s.first, .int .i64 s.size, .int .i64 s.owner] 25))) := (Below.refl _ _).alloc (Nat.le_refl _) _
  have a25 := fun w' => Try.aggSup w'
  have s25 := fun w' => Try.sizeSup w'
  unfold supV at HM ⊢
  clear h
  go_enter Try.func7, Try.ntmps7
  go_wp2_with (first
    | (go_at_call 10; (with_reducible refine (HM.out _).mono ?_); rintro e w1 ⟨rfl, hb1⟩))
  go_ret2
  exact ⟨rfl, chain7 HB.out hb1⟩
set_option maxRecDepth 100000 in
set_option maxHeartbeats 4000000 in
theorem supput_yes (s : Pu) (w : World) (h : s.may = true) :
    Calls Try.prog 7 #[supV s] w (GivesBytes s.bytes w) := by
  have HM : Hid (∀ W, Calls Try.prog 10 #[supV s] W fun e w' => e = .returned (.int .i64 0) ∧ Below W.heap.size W w') := fun W => by
    have h1 := scheck_any s W
    rw [h] at h1
    exact h1
  have HPu : Hid (∀ W (A : Option Addr) (c : Nat), RB W W.heap.size A s.data → Below w.heap.size w W → Calls Try.prog 28 #[.agg #[.int .i64 1, .int .i64 s.gen, .int .i64 s.blocks, .int .i64 0, .slice A 16 c]] W fun e w' => ∃ A c, e = .returned (.tuple #[.slice A 64 c, .int .i64 0]) ∧ Hid (GivesBytes s.bytes w (.returned (.tuple #[.slice A 64 c, .int .i64 0])) w')) := fun W A c hr hb => by
    have h1 := sput_yes s.sec A c W (Pu.sec_may h) hr
    unfold secV at h1
    have e16 : s.sec.data.length = 16 := s.data_length
    rw [e16] at h1
    refine h1.mono fun e w' hh => ?_
    obtain ⟨A', c', he, ho, hb'⟩ := hh
    have e64 : s.sec.bytes.length = 64 := s.bytes_length
    rw [e64] at he
    exact ⟨A', c', he, A', c', by rw [s.bytes_length], Joins.ownsRow_le ho hb.size, chain7 hb hb'⟩
  obtain ⟨i0, hi0, hz0, hz1, hz2⟩ := info_parts Try.info5
  obtain ⟨h1, h2, h3, h4, h5, h6, h7⟩ := s.may_iff.1 h
  have hd : s.data = fixK [s.log.toNat, s.first.toNat, s.size.toNat, s.owner.toNat] 4 := by
    unfold Pu.data fixK; simp
  have HD := Lib.hid hd
  obtain ⟨g, b, l, f, z, o⟩ := s
  simp only at h1 h2 h3 h4 h5 h6 h7 hd HPu HD
  obtain ⟨l, rfl⟩ : ∃ k : Nat, l = (k : Int) := ⟨l.toNat, by omega⟩
  obtain ⟨f, rfl⟩ : ∃ k : Nat, f = (k : Int) := ⟨f.toNat, by omega⟩
  obtain ⟨z, rfl⟩ : ∃ k : Nat, z = (k : Int) := ⟨z.toNat, by omega⟩
  obtain ⟨o, rfl⟩ : ∃ k : Nat, o = (k : Int) := ⟨o.toNat, by omega⟩
  obtain ⟨v, hv⟩ : ∃ v, v = [l, f, z, o] := ⟨_, rfl⟩
  simp only [Int.toNat_natCast] at HD
  rw [← hv] at HD
  have hv4 : v.length = 4 := by rw [hv]; rfl
  have hvm : ∀ (k : Nat) (hk : k < v.length), v[k] ≤ 2147483647 := by
    subst hv
    intro k hk
    match k, hk with
    | 0, _ => show l ≤ _; omega
    | 1, _ => show f ≤ _; omega
    | 2, _ => show z ≤ _; omega
    | 3, _ => show o ≤ _; omega
  have HV : Hid (v = [l, f, z, o] ∧ v.length = 4 ∧ ∀ (k : Nat) (hk : k < v.length), v[k] ≤ 2147483647) := ⟨hv, hv4, hvm⟩
  have HF : Hid (∀ W (k : Nat) (hk : k < v.length), Calls Try.prog 27 #[.int .i64 (v[k] : Int), .int .i64 4] W fun e w' => ∃ A c, e = .returned (.tuple #[.slice A 4 c, .int .i64 0]) ∧ Hid (RB w' w'.heap.size A (fixL 4 v[k])) ∧ Below W.heap.size W w') := fun W k hk =>
    (fix_yes v[k] 4 W (hvm k hk) (by omega) (by omega) (by have := hvm k hk; have e : (256 : Nat) ^ 4 = 4294967296 := rfl; omega)).mono fun e w' hh => by
      obtain ⟨A2, c2, he, ho, hb⟩ := hh
      rw [fixL_length] at he
      exact ⟨A2, c2, he, own_rb ho, hb⟩
  have HB : Hid (Below w.heap.size w (w.alloc (.cells #[.int .i64 g, .int .i64 b, .int .i64 (l : Int), .int .i64 (f : Int), .int .i64 (z : Int), .int .i64 (o : Int)] 25))) := (Below.refl _ _).alloc (Nat.le_refl _) _
  have HC := Lib.hid (fun W hb => super_at w W g b (l : Int) (f : Int) (z : Int) (o : Int) hb)
  have n69 := fun A m c w' => Try.secBuildU g b A m c w'
  have n66 := fun w' => Try.arr4 (l : Int) (f : Int) (z : Int) (o : Int) w'
  have a25 := fun w' => Try.aggSup w'
  have s25 := fun w' => Try.sizeSup w'
  unfold supV at HM ⊢
  simp only at HM ⊢
  clear hd hv hv4 hvm h h1 h2 h3 h4 h5 h6 h7
  go_enter Try.func7, Try.ntmps7
  go_wp2_with (first
    | (go_at_call 10; (with_reducible refine (HM.out _).mono ?_); rintro e w1 ⟨rfl, hb1⟩; have b1 := chain7 HB.out hb1; obtain ⟨p0, p1, p2, p3, p4, p5⟩ := HC.out _ hb1))
  have HKb := Lib.hid hb1
  clear p0 p1 p2 p3 p4 p5 hb1
  go_loopw [5, 7, 8, 9, 27] (fun u _ _ _ x wr => ∃ k : Nat, k ≤ 4 ∧ x = .int .i64 (k : Int) ∧ Hid (wr.ownsRow w1.heap.size 5 1 u (4 * k) (cells (fixK v k))) ∧ Hid (Below w1.heap.size w1 wr)) (fun _ _ _ _ x _ => 4 - (intOf x).toNat)
  case atStart => exact ⟨0, by omega, rfl, World.ownsRow_nil _ _ _ _, Below.refl _ _⟩
  case round =>
    obtain ⟨k, hk, rfl, HO, hb⟩ := hrel
    by_cases hlt : k < 4
    · have hk2 : k < v.length := by have := HV.out.2.1; omega
      obtain ⟨x, hx⟩ : ∃ x, x = v[k] := ⟨_, rfl⟩
      have hix : ∀ w', Sem.run Try.prog (Instr.index 66 (.agg #[.int .i64 (l : Int), .int .i64 (f : Int), .int .i64 (z : Int), .int .i64 (o : Int)]) (.int .i64 (k : Int))) w' = .ok (.int .i64 (x : Int)) w' := by
        rw [hx]
        have e := HV.out.1
        subst e
        match k, hk2 with
        | 0, _ => exact fun w' => Try.at4_0 (l : Int) (f : Int) (z : Int) (o : Int) w'
        | 1, _ => exact fun w' => Try.at4_1 (l : Int) (f : Int) (z : Int) (o : Int) w'
        | 2, _ => exact fun w' => Try.at4_2 (l : Int) (f : Int) (z : Int) (o : Int) w'
        | 3, _ => exact fun w' => Try.at4_3 (l : Int) (f : Int) (z : Int) (o : Int) w'
      have HFx := Lib.hid (HF.out wr k hk2)
      have HSn : Hid (fixK v (k + 1) = fixK v k ++ fixL 4 v[k]) := fixK_succ v k hk2
      rw [← hx] at HFx HSn
      have u0 : (0 : Int) ≤ (k : Int) := by omega
      have u1 : (k : Int) < 4 := by omega
      have d0 : decide ((k : Int) < 4) = true := decide_eq_true u1
      have hbo := hb.out
      clear hx
      go_wp2_with (first
        | (go_at_call 27; (with_reducible refine HFx.out.mono ?_); rintro e w3 ⟨A3, c3, rfl, r3, hb3⟩; have ho3 := own_below7 HO.out hb3; have hs3 : w1.heap.size ≤ w3.heap.size := Nat.le_trans hbo.size hb3.size; have q3 := rb4 r3.out)
        | (at_builtin; refine wpList_append_any _ rfl (.tmp 35) (.tmp 36) _ rfl w1.heap.size 5 i0 _ 1 1 Try.underlying26 hi0 hz0 hz1 hz2 rfl (by omega) u5 (4 * k) (cells (fixK v k)) rfl ho3 w3.heap.size A3 4 c3 (cells (fixL 4 x)) rfl q3 (cells_one _) (by simp only [maxLen]; omega) (by omega) hs3 ?_; intro v9 w9 ho9 hg9 hat9))
      have hO9 : w9.ownsRow w1.heap.size 5 1 v9 (4 * (k + 1)) (cells (fixK v (k + 1))) := by rw [HSn.out, cells_append, show 4 * (k + 1) = 4 * k + 4 by omega]; exact ho9
      have hb9 : Below w1.heap.size w1 w9 := (chain7 hbo hb3).grown hg9 hs3 (fun j hj => (HO.out.lt j hj).1)
      clear ho3 q3 ho9 hg9 hat9
      refine ⟨⟨k + 1, by omega, by go_num, hO9, hb9⟩, ?_⟩
      simp [intOf]; omega
    · obtain rfl : k = 4 := by omega
      obtain ⟨A9, c9, rfl⟩ := own_form HO.out
      have hfr : RB wr wr.heap.size A9 (fixK v 4) := by
        have hl : (fixK v 4).length = 16 := fixK_length v 4 (by have := HV.out.2.1; omega)
        refine Reads.of_own (base := w1.heap.size) (e := 5) (c := c9) ?_
        rw [hl]; exact HO.out
      have hbw := chain7 b1 hb.out
      obtain ⟨t0, t1, -, -, -, -⟩ := HC.out _ (chain7 HKb.out hb.out)
      have HPx := Lib.hid (HPu.out wr A9 c9 (by rw [HD.out]; exact hfr) hbw)
      have d0 : decide (((4 : Nat) : Int) < 4) = false := by decide
      clear hfr HO hb
      go_wp2_with (first
        | (go_at_call 28; (with_reducible refine HPx.out.mono ?_); rintro e w5 ⟨A5, c5, rfl, hG⟩))
      go_ret2
      exact hG.out
theorem supput_any (s : Pu) (w : World) : Calls Try.prog 7 #[supV s] w fun e w' => (s.may = true → GivesBytes s.bytes w e w') ∧ (s.may = false → e = .returned (.tuple #[.slice none 0 0, .int .i64 1]) ∧ Below w.heap.size w w') := by
  cases h : s.may with
  | true => exact (supput_yes s w h).mono fun e w' hh => ⟨fun _ => hh, fun h1 => absurd h1 (by decide)⟩
  | false => exact (supput_no s w h).mono fun e w' hh => ⟨fun h1 => absurd h1 (by decide), fun _ => hh⟩
end Go.Proofs.Ytkockhggnbfahaa
end
