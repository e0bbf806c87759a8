/- CrcTurns returns true for every slice of bytes, every int and every four bytes, and leaves memory that was there as it was; nothing is assumed beyond the statement itself. -/
import Derived.Test.YtmmoenglnaphdaaSeals
import Derived.Test.YtmmoenglnaphdaaTurn
import Derived.SizedLaws
import Derived.Laws.IdiomArrays
import Derived.Stop.BytesEq
set_option linter.unusedVariables false
namespace Go.Proofs.Ytmmoenglnaphdaa
open Go.ChangeShapes Go.WideShapes Go.ChangeAt Go.RowKit

theorem eql_zero (t0 t1 t2 t3 : UInt8) (w : World) :
    (binOp .eql 33 (.agg #[.int .u8 (t0.toNat : Int), .int .u8 (t1.toNat : Int), .int .u8 (t2.toNat : Int), .int .u8 (t3.toNat : Int)]) (.agg #[.int .u8 0, .int .u8 0, .int .u8 0, .int .u8 0])).run Try.prog w = .ok (.bool (decide (t0 = 0 ∧ t1 = 0 ∧ t2 = 0 ∧ t3 = 0))) w := by
  have h := run_eql_bytes (P := Try.prog) w 33 5 4 Try.underlying33 Try.underlying5 (fun w => by kernel_rfl) [t0, t1, t2, t3] [0, 0, 0, 0] rfl rfl
  have e : ([t0, t1, t2, t3] == [0, 0, 0, 0]) = decide (t0 = 0 ∧ t1 = 0 ∧ t2 = 0 ∧ t3 = 0) := by
    rw [Bool.eq_iff_iff]; simp
  rw [e] at h
  exact h
theorem rb_alloc {w : World} {A : Option Addr} {L : List UInt8} (h : RB w w.heap.size A L) (o : Obj) : RB (w.alloc o) (w.alloc o).heap.size A L := (h.alloc (Nat.le_refl _) o).more (by simp)

set_option maxRecDepth 100000 in
set_option maxHeartbeats 4000000 in
theorem turns_core (L S : List UInt8) (A : Option Addr) (c : Nat) (p : Nat) (t0 t1 t2 t3 : UInt8) (w : World) (hr : RB w w.heap.size A L) (hl : ¬ 2000 < L.length) (hp : p ≤ L.length)
    (hne : ¬ (t0 = 0 ∧ t1 = 0 ∧ t2 = 0 ∧ t3 = 0)) (n : Nat) (HL : Hid (L.length = n)) (m : Nat) (HS : Hid (S.length = m)) (hm : m = n + 4)
    (HC15 : Hid (∀ W, RB W W.heap.size A L → Calls Try.prog 15 #[.slice A n c] W (fun e w' => ∃ g c, e = .returned (.slice (some ⟨g, 0, none⟩) (n + 4) c) ∧ w'.ownsRow W.heap.size 5 1 (.slice (some ⟨g, 0, none⟩) (n + 4) c) (n + 4) (cells S) ∧ n + 4 ≤ c ∧ c ≤ 9223372036854775807 ∧ Below W.heap.size W w')))
    (HC13 : Hid (∀ W A c, n + 4 ≤ c → c ≤ 9223372036854775807 → RB W W.heap.size A (turnK S p [t0, t1, t2, t3] 4) → Calls Try.prog 13 #[.slice A (n + 4) c] W fun e w' => e = .returned (.tuple #[.slice none 0 0, .int .i64 12]) ∧ Below W.heap.size W w')) :
    Calls Try.prog 5 #[.slice A n c, .int .i64 (p : Int), .agg #[.int .u8 (t0.toNat : Int), .int .u8 (t1.toNat : Int), .int .u8 (t2.toNat : Int), .int .u8 (t3.toNat : Int)]] w fun e w' => e = .returned (.bool true) ∧ Below w.heap.size w w' := by
  have hn2 : ¬ (2000 : Int) < (n : Int) := by rw [← HL.out]; omega
  have hd1 : decide ((2000 : Int) < (n : Int)) = false := by simp; omega
  have hd2 : decide ((p : Int) < 0) = false := by simp
  have hd3 : decide (n < p) = false := by simp; rw [← HL.out]; exact hp
  have hpn : p ≤ n := by rw [← HL.out]; exact hp
  have f0 := rb_alloc hr (.cells #[.int .u8 (t0.toNat : Int), .int .u8 (t1.toNat : Int), .int .u8 (t2.toNat : Int), .int .u8 (t3.toNat : Int)] 33)
  clear hl hp
  have hq : ∀ W, (binOp .eql 33 (.agg #[.int .u8 (t0.toNat : Int), .int .u8 (t1.toNat : Int), .int .u8 (t2.toNat : Int), .int .u8 (t3.toNat : Int)]) (.agg #[.int .u8 0, .int .u8 0, .int .u8 0, .int .u8 0])).run Try.prog W = .ok (.bool false) W := fun W => by
    rw [eql_zero, decide_eq_false hne]
  go_enter Try.func5, Try.ntmps5
  have hbx : Blk (w.alloc (.cells #[.int .u8 (t0.toNat : Int), .int .u8 (t1.toNat : Int), .int .u8 (t2.toNat : Int), .int .u8 (t3.toNat : Int)] 33)) w.heap.size 33 #[.int .u8 (t0.toNat : Int), .int .u8 (t1.toNat : Int), .int .u8 (t2.toNat : Int), .int .u8 (t3.toNat : Int)] := Blk.new _ _ _
  go_wp2_with (first
    | ((refine wpList_load_yes (by go_simp) 33 (.tmp 5) rfl w.heap.size rfl 33 #[.int .u8 (t0.toNat : Int), .int .u8 (t1.toNat : Int), .int .u8 (t2.toNat : Int), .int .u8 (t3.toNat : Int)] (0, 0) _ hb33 Try.underlying33 rfl (by kernel_rfl) ?_))
    | (go_at_call 15; (with_reducible refine (HC15.out _ f0).mono ?_); rintro e w1 ⟨g, c1, rfl, ho1, h11, h12, hb1⟩; have hb33 := hbx.below hb1 (by simp)))
  have hgt : w.heap.size < (w.alloc (.cells #[.int .u8 (t0.toNat : Int), .int .u8 (t1.toNat : Int), .int .u8 (t2.toNat : Int), .int .u8 (t3.toNat : Int)] 33)).heap.size := by simp
  have hbw : Below w.heap.size w w1 := ((Below.refl _ _).alloc (Nat.le_refl _) _).trans (hb1.mono (Nat.le_of_lt hgt))
  have hB1 := hb1.size
  clear hb1 hbx f0
  generalize (w.alloc (.cells #[.int .u8 (t0.toNat : Int), .int .u8 (t1.toNat : Int), .int .u8 (t2.toNat : Int), .int .u8 (t3.toNat : Int)] 33)).heap.size = B at ho1 hgt hB1
  have hg := (ho1.lt g rfl).1
  have hlen : ∀ k, (turnK S p [t0, t1, t2, t3] k).length = n + 4 := fun k => by rw [turnK_length, HS.out]; exact hm
  have HLen := Lib.hid hlen
  clear hlen
  go_loopw [8] (fun i wr => ∃ k : Nat, k ≤ 4 ∧ i = .int .i64 (k : Int) ∧ wr.ownsRow B 5 1 (.slice (some ⟨g, 0, none⟩) (n + 4) c1) (n + 4) (cells (turnK S p [t0, t1, t2, t3] k)) ∧ Below B w1 wr) (fun i _ => 4 - (intOf i).toNat)
  case atStart => exact ⟨0, Nat.zero_le _, rfl, ho1, Below.refl _ _⟩
  case round =>
    obtain ⟨k, hk, rfl, hown, hbr⟩ := hrel
    by_cases hlt : k < 4
    · have hj : p + k < (turnK S p [t0, t1, t2, t3] k).length := by rw [HLen.out]; omega
      have hbk := hb33.below hbr hgt
      have hc1 : wr.cell? ⟨g, p + k, none⟩ = some (.int .u8 ((turnK S p [t0, t1, t2, t3] k)[p + k].toNat : Int)) := by
        rw [hown.cellAt (p + k) (by rw [HLen.out] at hj; omega), cells_get _ _ hj]
      have hf1 : wr.frozen? ⟨g, p + k, none⟩ = false := hown.frozenAt (p + k)
      have hc2 : wr.cell? ⟨w.heap.size, k, none⟩ = some (.int .u8 (([t0, t1, t2, t3] : List UInt8)[k].toNat : Int)) := by
        rw [(blk_cell hbk k).1]
        match k, hlt with
        | 0, _ => rfl
        | 1, _ => rfl
        | 2, _ => rfl
        | 3, _ => rfl
      have hsuc := turnK_succ S p [t0, t1, t2, t3] k hj hlt
      have hst := (hown.stored (p + k) (.int .u8 (((turnK S p [t0, t1, t2, t3] k)[p + k] ^^^ ([t0, t1, t2, t3] : List UInt8)[k]).toNat : Int))).1
      have hset : (cells (turnK S p [t0, t1, t2, t3] k)).set (p + k) (.int .u8 (((turnK S p [t0, t1, t2, t3] k)[p + k] ^^^ ([t0, t1, t2, t3] : List UInt8)[k]).toNat : Int)) = cells (turnK S p [t0, t1, t2, t3] (k + 1)) := by
        rw [hsuc]; unfold cells; rw [List.map_set]
      rw [hset] at hst
      obtain ⟨x, hx⟩ : ∃ x, x = (turnK S p [t0, t1, t2, t3] k)[p + k] := ⟨_, rfl⟩
      obtain ⟨y, hy⟩ : ∃ y, y = ([t0, t1, t2, t3] : List UInt8)[k] := ⟨_, rfl⟩
      rw [← hx] at hc1 hst
      rw [← hy] at hc2 hst
      obtain ⟨b, hb⟩ : ∃ b, b = x ^^^ y := ⟨_, rfl⟩
      have hq1 : bits .xor .u8 (x.toNat : Int) (y.toNat : Int) = (b.toNat : Int) := by rw [hb, UInt8.toNat_xor]; exact u8_xor_nat _ _ x.toNat_lt y.toNat_lt
      rw [← hb] at hst
      have HST := Lib.hid hst
      have hbs : Below B w1 (wr.setCell ⟨g, p + k, none⟩ (.int .u8 (b.toNat : Int))) := hbr.setCell hg _
      clear hset hsuc hx hy hb hst hj hbk hown
      have hpk : (p : Int) + (k : Int) < (n : Int) + 4 := by omega
      have hpk0 : (0 : Int) ≤ (p : Int) + (k : Int) := by omega
      go_wp2
      go_region
      go_wp2
      go_roundw
      case rel => exact ⟨k + 1, by omega, by go_num, HST.out, hbs.drew⟩
      case measure => simp [intOf]; omega
    · obtain rfl : k = 4 := by omega
      have hrb : RB wr wr.heap.size (some ⟨g, 0, none⟩) (turnK S p [t0, t1, t2, t3] 4) := by
        refine Reads.of_own (base := B) (e := 5) (c := c1) ?_
        rw [HLen.out]; exact hown
      have hbw2 := hbw.trans (hbr.mono (by omega))
      go_wp2_with (first
        | (go_at_call 13; (with_reducible refine (HC13.out _ _ _ h11 h12 hrb).mono ?_); rintro e w2 ⟨rfl, hb2⟩)
        | (go_at_call 7; refine (awake_any _).mono ?_; rintro e w3 ⟨rfl, hb3⟩))
      go_ret
      exact ⟨rfl, (hbw2.trans (hb2.mono hbw2.size)).trans (hb3.mono (by have := hbw2.size; have := hb2.size; omega))⟩

/-- What the reference's Seal gives, in parts. -/
theorem refSeal_parts (L : List UInt8) (A : Option Addr) (c : Nat) (w : World) (hr : RB w w.heap.size A L) (hl : L.length ≤ 140737488351232) :
    Calls Try.prog 15 #[.slice A L.length c] w (fun e w' => ∃ g c, e = .returned (.slice (some ⟨g, 0, none⟩) (L.length + 4) c) ∧ w'.ownsRow w.heap.size 5 1 (.slice (some ⟨g, 0, none⟩) (L.length + 4) c) (L.length + 4) (cells (sealL L)) ∧ L.length + 4 ≤ c ∧ c ≤ 9223372036854775807 ∧ Below w.heap.size w w') := by
  refine (refSeal_any L A c _ w hr hl).mono fun e w' ⟨A', c', he, ho, hb⟩ => ?_
  have h1 := own_le ho
  have h2 := own_cap ho
  unfold Own at ho
  rw [sealL_length] at ho h1 he
  obtain ⟨g, cap, hv, _, _⟩ := ho.form (by omega)
  injection hv with hA _ _
  subst hA
  exact ⟨g, c', he, ho, h1, h2, hb⟩

set_option maxRecDepth 100000 in
set_option maxHeartbeats 4000000 in
theorem turns_out (L : List UInt8) (A : Option Addr) (c : Nat) (z : Int) (t0 t1 t2 t3 : UInt8) (w : World) (hr : RB w w.heap.size A L) (hl : L.length ≤ 140737488351232)
    (h : 2000 < L.length ∨ z < 0 ∨ (L.length : Int) < z ∨ (t0 = 0 ∧ t1 = 0 ∧ t2 = 0 ∧ t3 = 0)) :
    Calls Try.prog 5 #[.slice A L.length c, .int .i64 z, .agg #[.int .u8 (t0.toNat : Int), .int .u8 (t1.toNat : Int), .int .u8 (t2.toNat : Int), .int .u8 (t3.toNat : Int)]] w fun e w' => e = .returned (.bool true) ∧ Below w.heap.size w w' := by
  have f0 := rb_alloc hr (.cells #[.int .u8 (t0.toNat : Int), .int .u8 (t1.toNat : Int), .int .u8 (t2.toNat : Int), .int .u8 (t3.toNat : Int)] 33)
  have HC15 : Hid (∀ W, RB W W.heap.size A L → Calls Try.prog 15 #[.slice A L.length c] W (fun e w' => ∃ g c, e = .returned (.slice (some ⟨g, 0, none⟩) (L.length + 4) c) ∧ w'.ownsRow W.heap.size 5 1 (.slice (some ⟨g, 0, none⟩) (L.length + 4) c) (L.length + 4) (cells (sealL L)) ∧ L.length + 4 ≤ c ∧ c ≤ 9223372036854775807 ∧ Below W.heap.size W w')) :=
    fun W h => refSeal_parts L A c W h hl
  have hbx : Blk (w.alloc (.cells #[.int .u8 (t0.toNat : Int), .int .u8 (t1.toNat : Int), .int .u8 (t2.toNat : Int), .int .u8 (t3.toNat : Int)] 33)) w.heap.size 33 #[.int .u8 (t0.toNat : Int), .int .u8 (t1.toNat : Int), .int .u8 (t2.toNat : Int), .int .u8 (t3.toNat : Int)] := Blk.new _ _ _
  have hbl : ∀ w1, Below (w.alloc (.cells #[.int .u8 (t0.toNat : Int), .int .u8 (t1.toNat : Int), .int .u8 (t2.toNat : Int), .int .u8 (t3.toNat : Int)] 33)).heap.size (w.alloc (.cells #[.int .u8 (t0.toNat : Int), .int .u8 (t1.toNat : Int), .int .u8 (t2.toNat : Int), .int .u8 (t3.toNat : Int)] 33)) w1 → Below w.heap.size w w1 :=
    fun w1 hb => ((Below.refl _ _).alloc (Nat.le_refl _) _).trans (hb.mono (by simp))
  have HBL := Lib.hid hbl
  have HBX := Lib.hid hbx
  generalize L.length = n at *
  clear hbl hbx hl hr
  by_cases h1 : 2000 < n
  · have hd1 : decide ((2000 : Int) < (n : Int)) = true := by simp; omega
    have h1' : (2000 : Int) < (n : Int) := by omega
    clear h
    go_enter Try.func5, Try.ntmps5
    go_wp2_with (first
      | (go_at_call 15; (with_reducible refine (HC15.out _ f0).mono ?_); rintro e w1 ⟨g, c1, rfl, ho1, h11, h12, hb1⟩)
      | (go_at_call 7; refine (awake_any _).mono ?_; rintro e w3 ⟨rfl, hb3⟩))
    go_ret
    exact ⟨rfl, (HBL.out _ hb1).trans (hb3.mono (HBL.out _ hb1).size)⟩
  have hd1 : decide ((2000 : Int) < (n : Int)) = false := by simp; omega
  have h1' : ¬ (2000 : Int) < (n : Int) := by omega
  by_cases h2 : z < 0
  · have hd2 : decide (z < 0) = true := by simp [h2]
    clear h
    go_enter Try.func5, Try.ntmps5
    go_wp2_with (first
      | (go_at_call 15; (with_reducible refine (HC15.out _ f0).mono ?_); rintro e w1 ⟨g, c1, rfl, ho1, h11, h12, hb1⟩)
      | (go_at_call 7; refine (awake_any _).mono ?_; rintro e w3 ⟨rfl, hb3⟩))
    go_ret
    exact ⟨rfl, (HBL.out _ hb1).trans (hb3.mono (HBL.out _ hb1).size)⟩
  obtain ⟨p, rfl⟩ : ∃ p : Nat, z = (p : Int) := ⟨z.toNat, by omega⟩
  by_cases h3 : n < p
  · have hd3 : decide (n < p) = true := by simp [h3]
    clear h
    go_enter Try.func5, Try.ntmps5
    go_wp2_with (first
      | (go_at_call 15; (with_reducible refine (HC15.out _ f0).mono ?_); rintro e w1 ⟨g, c1, rfl, ho1, h11, h12, hb1⟩)
      | (go_at_call 7; refine (awake_any _).mono ?_; rintro e w3 ⟨rfl, hb3⟩))
    go_ret
    exact ⟨rfl, (HBL.out _ hb1).trans (hb3.mono (HBL.out _ hb1).size)⟩
  have hd3 : decide (n < p) = false := by simp; omega
  have hpn : p ≤ n := by omega
  have hz : t0 = 0 ∧ t1 = 0 ∧ t2 = 0 ∧ t3 = 0 := by
    rcases h with h | h | h | h
    · omega
    · omega
    · omega
    · exact h
  have hq : ∀ W, (binOp .eql 33 (.agg #[.int .u8 (t0.toNat : Int), .int .u8 (t1.toNat : Int), .int .u8 (t2.toNat : Int), .int .u8 (t3.toNat : Int)]) (.agg #[.int .u8 0, .int .u8 0, .int .u8 0, .int .u8 0])).run Try.prog W = .ok (.bool true) W := fun W => by
    rw [eql_zero, decide_eq_true hz]
  clear h hz
  go_enter Try.func5, Try.ntmps5
  go_wp2_with (first
    | (refine wpList_load_yes (by go_simp) 33 (.tmp 5) rfl w.heap.size rfl 33 #[.int .u8 (t0.toNat : Int), .int .u8 (t1.toNat : Int), .int .u8 (t2.toNat : Int), .int .u8 (t3.toNat : Int)] (0, 0) _ hb33 Try.underlying33 rfl (by kernel_rfl) ?_)
    | (go_at_call 15; (with_reducible refine (HC15.out _ f0).mono ?_); rintro e w1 ⟨g, c1, rfl, ho1, h11, h12, hb1⟩; have hb33 := HBX.out.below hb1 (by simp))
    | (go_at_call 7; refine (awake_any _).mono ?_; rintro e w3 ⟨rfl, hb3⟩))
  go_ret
  exact ⟨rfl, (HBL.out _ hb1).trans (hb3.mono (HBL.out _ hb1).size)⟩

theorem turns_any (L : List UInt8) (A : Option Addr) (c : Nat) (z : Int) (t0 t1 t2 t3 : UInt8) (w : World) (hr : RB w w.heap.size A L) (hl : L.length ≤ 140737488351232) :
    Calls Try.prog 5 #[.slice A L.length c, .int .i64 z, .agg #[.int .u8 (t0.toNat : Int), .int .u8 (t1.toNat : Int), .int .u8 (t2.toNat : Int), .int .u8 (t3.toNat : Int)]] w fun e w' => e = .returned (.bool true) ∧ Below w.heap.size w w' := by
  by_cases h : 2000 < L.length ∨ z < 0 ∨ (L.length : Int) < z ∨ (t0 = 0 ∧ t1 = 0 ∧ t2 = 0 ∧ t3 = 0)
  · exact turns_out L A c z t0 t1 t2 t3 w hr hl h
  · have h1 : ¬ 2000 < L.length := fun hx => h (.inl hx)
    have h2 : ¬ z < 0 := fun hx => h (.inr (.inl hx))
    have h3 : ¬ (L.length : Int) < z := fun hx => h (.inr (.inr (.inl hx)))
    have h4 : ¬ (t0 = 0 ∧ t1 = 0 ∧ t2 = 0 ∧ t3 = 0) := fun hx => h (.inr (.inr (.inr hx)))
    obtain ⟨p, rfl⟩ : ∃ p : Nat, z = (p : Int) := ⟨z.toNat, by omega⟩
    refine turns_core L (sealL L) A c p t0 t1 t2 t3 w hr h1 (by omega) h4 L.length rfl (L.length + 4) (sealL_length L) rfl (fun W hW => refSeal_parts L A c W hW hl) (fun W A' c' h5 h6 h7 => ?_)
    have hlen : (turnK (sealL L) p [t0, t1, t2, t3] 4).length = L.length + 4 := by rw [turnK_length, sealL_length]
    have ho := open_any (turnK (sealL L) p [t0, t1, t2, t3] 4) A' c' _ W h7 (by rw [hlen]; exact h5) h6 (by rw [hlen]; omega)
    rw [turned_not L p t0 t1 t2 t3 (by omega) h4, hlen] at ho
    exact ho

theorem bytes_datum {H : Type} {enc : TypeId × Value → H} {P : Program} {W : World} {t e : TypeId} {A : Option Addr} {n c : Nat} {d : DataW H} {ps : List MemPlace} (ht : P.underlying t = some (.slice e)) (he : P.underlying e = some (.int .u8)) (hc : P.cellsOf e = 1)
    (h : DataW.Trod enc P W 0 (fun _ => true) true t (.slice A n c) d ps) : n = 0 ∨ ∃ elems spare, d = .slice elems spare ∧ elems.length = n := by
  obtain ⟨fuel, hf⟩ := h
  rcases open_ints ht he hc hf with ⟨hcs, hx⟩ | ⟨a, len', cap', zs, hcs, _, hl, hm, hz, hx, _, _⟩
  · simp [Value.cells] at hcs
    exact .inl hcs.2.1
  · simp [Value.cells] at hcs
    obtain ⟨rfl, rfl, rfl⟩ := hcs
    simp only [if_true] at hz
    simp only [Prod.mk.injEq] at hx
    exact .inr ⟨_, _, hx.1, by simp [lits]; omega⟩

theorem list4 {α : Type} (l : List α) (h : (⟨l⟩ : Array α).size = 4) : ∃ a b c d, l = [a, b, c, d] := by
  match l, h with
  | [a, b, c, d], _ => exact ⟨a, b, c, d, rfl⟩

theorem byte_of (x : Int) (h : (Lit.int .u8 x).wf = true) : ∃ t : UInt8, x = (t.toNat : Int) := by
  have hb : 0 ≤ x ∧ x ≤ 255 := by simpa [Lit.wf, IntKind.min, IntKind.max, IntKind.signed, IntKind.bits] using h
  refine ⟨UInt8.ofNat x.toNat, ?_⟩
  rw [ofNat_toNat _ (by omega)]
  omega

/-- Four bytes by value: the cells. -/
theorem open_four {H : Type} {enc : TypeId × Value → H} {P : Program} {W : World} {base : Nat} {t e : TypeId} {v : Value} {d : DataW H} {ps : List MemPlace} (ht : P.underlying t = some (.array 4 e)) (he : P.underlying e = some (.int .u8)) (hc : P.cellsOf e = 1) (hct : P.cellsOf t = 4)
    (hv : Value.okWide P W .any base t v) (h : DataW.Trod enc P W 0 (fun _ => true) true t v d ps) :
    ∃ t0 t1 t2 t3 : UInt8, v = .agg #[.int .u8 (t0.toNat : Int), .int .u8 (t1.toNat : Int), .int .u8 (t2.toNat : Int), .int .u8 (t3.toNat : Int)] := by
  obtain ⟨cs, rfl, hsz, _⟩ : ∃ cs, v = .agg cs ∧ cs.size = P.cellsOf t ∧ Row.okWide P W .any base t cs := by
    simpa [Value.okWide, ht] using hv
  rw [hct] at hsz
  obtain ⟨l⟩ := cs
  obtain ⟨c0, c1, c2, c3, rfl⟩ := list4 l hsz
  obtain ⟨fuel, hf⟩ := h
  obtain ⟨y0, y1, y2, y3, m, hx, hy0, hy1, hy2, hy3⟩ := trod_array4 ht hc hf
  obtain ⟨x0, e0, rfl, w0⟩ := DataW.trod_int he hy0
  obtain ⟨x1, e1, rfl, w1⟩ := DataW.trod_int he hy1
  obtain ⟨x2, e2, rfl, w2⟩ := DataW.trod_int he hy2
  obtain ⟨x3, e3, rfl, w3⟩ := DataW.trod_int he hy3
  simp at e0 e1 e2 e3
  subst e0 e1 e2 e3
  obtain ⟨t0, rfl⟩ := byte_of x0 w0
  obtain ⟨t1, rfl⟩ := byte_of x1 w1
  obtain ⟨t2, rfl⟩ := byte_of x2 w2
  obtain ⟨t3, rfl⟩ := byte_of x3 w3
  exact ⟨t0, t1, t2, t3, rfl⟩

theorem Try.cells5d : Try.prog.cellsOf 5 = 1 := by kernel_rfl
theorem Try.cells33 : Try.prog.cellsOf 33 = 4 := by kernel_rfl
theorem Try.bytes5 : Try.prog.bytesOf 5 = 1 := by kernel_rfl

set_option maxRecDepth 100000 in
theorem turns_lifted (os : Os) (started : os.Started) (H : Type) (enc : TypeId × Value → H) :
    ReturnsInHanded {} Try.checked os 5 .any (Rows.crcTurnsSpec.pre6 enc Try.prog Try.f5 Rows.crcTurnsRow.domain false) (Rows.crcTurnsSpec.post enc Try.prog Try.f5 false true false false) := by
  refine returnsInHanded_of_change_sized (C := Try.checked) Try.own started (by kernel_rfl) Try.func5
    (ChangeSpec.witness6 (enc := enc) (C := Try.checked) false ⟨#[], #[.slice none 0 0, .int .i64 0, .agg #[.int .u8 0, .int .u8 0, .int .u8 0, .int .u8 0]], []⟩ 8 (by kernel_rfl) (by kernel_rfl) (by kernel_rfl) (by kernel_rfl)) ?_
  intro W base args ds gs before hval0 hW hcnd hsz0 _
  have hval : ∀ (j : Nat) t v, Try.f5.params[j]? = some t → args[j]? = some v → Value.okWide Try.prog W .any base t v := hval0
  have hsz : (DataW.weightsEach Try.prog (Try.f5.params.toList ++ Rows.crcTurnsSpec.plain.varTypes Try.prog) (ds ++ gs)).all (· ≤ reachBytes) = true := hsz0
  have hW' : DataW.Whole enc Try.prog Try.f5.params.toList Rows.crcTurnsSpec.vars false W args.toList ds gs before := hW
  have hWk := hW'
  clear hsz0 hval0
  obtain ⟨p, q, hA, hV, rfl, hfz, hnd⟩ := hW'
  rw [Try.params5] at hA hval hsz
  obtain ⟨v0, v1, v2, d0, d1, d2, p0, p1, p2, rfl, rfl, rfl, h0, h1, h2⟩ := trodAll_three hA
  obtain ⟨rfl, rfl⟩ := trodVars_none hV
  obtain ⟨A, L, c, rfl, hr, hlc, hcm⟩ := open_bytes Try.underlying22 Try.underlying5 Try.cells5d (hval 0 22 v0 rfl rfl) h0
  obtain ⟨z, rfl, rfl, rfl, wz⟩ := open_int Try.underlying3 (hval 1 3 v1 rfl rfl) h1
  obtain ⟨t0, t1, t2, t3, rfl⟩ := open_four Try.underlying33 Try.underlying5 Try.cells5d Try.cells33 (hval 2 33 v2 rfl rfl) h2
  have hl : L.length ≤ 140737488351232 := by
    rcases bytes_datum Try.underlying22 Try.underlying5 Try.cells5d h0 with h | ⟨elems, spare, rfl, hle⟩
    · omega
    · have hb := sized_slice hsz (j := 0) (t := 22) (e := 5) rfl rfl Try.underlying22
      rw [Try.bytes5] at hb
      simp only [reachBytes] at hb
      omega
  refine (turns_any L A c z t0 t1 t2 t3 W hr hl).mono fun e W' ⟨he, hb⟩ => ⟨_, he, ?_⟩
  exact law_post Try.laidOut hWk rfl rfl rfl rfl rfl Try.underlying4 (by kernel_rfl) hb

theorem turns_holds : Rows.CrcTurnsSaid :=
  OpenClaim.holds_of_wide 5 Try.f5 rfl rfl rfl rfl rfl rfl rfl ⟨rfl, rfl, rfl, rfl, rfl⟩ rfl rfl rfl rfl rfl (by kernel_rfl) Try.func5 (by kernel_rfl)
    (of_decide_eq_true (by kernel_rfl)) (by unfold Func.isWrapper; first | (rw [if_pos (by decide +kernel)]; kernel_rfl) | (rw [if_neg (by decide +kernel)]; exact ⟨rfl, rfl⟩))
    (fun os started H enc _ => turns_lifted os started H enc)

end Go.Proofs.Ytmmoenglnaphdaa
