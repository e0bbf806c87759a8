/- The walks of the program's digitValue and Parse (layer 4). -/
import Derived.Test.YtmmilgjdngdnfaaDoorIdsParse
import Derived.Test.YtmmilgjdngdnfaaDoorShaPWords
import Derived.Laws.BitsAllLaws
set_option linter.unusedVariables false
namespace Go.Proofs.YtmmilgjdngdnfaaDoor
open Go.RowKit

/-- What a digit is worth, and whether it is one. -/
def digV (c : UInt8) : Nat := if digL c = 16 then 0 else digL c
set_option maxRecDepth 100000 in
set_option maxHeartbeats 1000000 in
theorem idsDigit_any (c : UInt8) (w : World) : Calls Tryd.prog 43 #[.int .u8 (c.toNat : Int)] w fun e w' => e = .returned (.tuple #[.int .u8 (digV c : Int), .bool (!decide (digL c = 16))]) ∧ w = w' := by
  have hc := c.toNat_lt
  obtain ⟨m, hm⟩ : ∃ m, m = c.toNat := ⟨_, rfl⟩
  have HD : Hid (digL c = if 48 ≤ m ∧ m ≤ 57 then m - 48 else if 97 ≤ m ∧ m ≤ 102 then m - 87 else if 65 ≤ m ∧ m ≤ 70 then m - 55 else 16) := by show _ = _; rw [hm]; rfl
  rw [← hm] at hc ⊢
  clear hm
  by_cases h0 : m ≤ 47
  · have hl : 0 ≤ m := by omega
    have n48 : decide (48 ≤ m) = false := decide_eq_false (by omega)
    have i48 : decide ((48 : Int) ≤ (m : Int)) = false := decide_eq_false (by omega)
    have n97 : decide (97 ≤ m) = false := decide_eq_false (by omega)
    have i97 : decide ((97 : Int) ≤ (m : Int)) = false := decide_eq_false (by omega)
    have n65 : decide (65 ≤ m) = false := decide_eq_false (by omega)
    have i65 : decide ((65 : Int) ≤ (m : Int)) = false := decide_eq_false (by omega)
    have n57 : decide (m ≤ 57) = true := decide_eq_true (by omega)
    have i57 : decide ((m : Int) ≤ 57) = true := decide_eq_true (by omega)
    have n102 : decide (m ≤ 102) = true := decide_eq_true (by omega)
    have i102 : decide ((m : Int) ≤ 102) = true := decide_eq_true (by omega)
    have n70 : decide (m ≤ 70) = true := decide_eq_true (by omega)
    have i70 : decide ((m : Int) ≤ 70) = true := decide_eq_true (by omega)
    have HV : Hid (digL c = 16) := by show _ = _; rw [HD.out]; (repeat' split) <;> omega
    have HV2 : Hid (digV c = 0) := by show _ = _; unfold digV; rw [HV.out, if_pos rfl]
    have HV3 : Hid (decide (digL c = 16) = true) := by show _ = _; rw [HV.out]; rfl
    clear HD HV
    go_enter Tryd.func43, Tryd.ntmps43
    go_wp2
    go_ret2
    refine ⟨?_, rfl⟩
    rw [HV2.out, HV3.out]
    first | rfl | exact congrArg (fun v => Ending.returned (Value.tuple #[Value.int .u8 v, Value.bool true])) (by omega)
  by_cases h1 : m ≤ 57
  · have hl : 48 ≤ m := by omega
    have n48 : decide (48 ≤ m) = true := decide_eq_true (by omega)
    have i48 : decide ((48 : Int) ≤ (m : Int)) = true := decide_eq_true (by omega)
    have n97 : decide (97 ≤ m) = false := decide_eq_false (by omega)
    have i97 : decide ((97 : Int) ≤ (m : Int)) = false := decide_eq_false (by omega)
    have n65 : decide (65 ≤ m) = false := decide_eq_false (by omega)
    have i65 : decide ((65 : Int) ≤ (m : Int)) = false := decide_eq_false (by omega)
    have n57 : decide (m ≤ 57) = true := decide_eq_true (by omega)
    have i57 : decide ((m : Int) ≤ 57) = true := decide_eq_true (by omega)
    have n102 : decide (m ≤ 102) = true := decide_eq_true (by omega)
    have i102 : decide ((m : Int) ≤ 102) = true := decide_eq_true (by omega)
    have n70 : decide (m ≤ 70) = true := decide_eq_true (by omega)
    have i70 : decide ((m : Int) ≤ 70) = true := decide_eq_true (by omega)
    have HV : Hid (digL c = m - 48) := by show _ = _; rw [HD.out]; (repeat' split) <;> omega
    have HV2 : Hid (digV c = m - 48) := by show _ = _; unfold digV; rw [HV.out, if_neg (by omega)]
    have HV3 : Hid (decide (digL c = 16) = false) := by show _ = _; rw [HV.out]; exact decide_eq_false (by omega)
    have es : IntKind.u8.wrap ((m : Int) - 48) = ((m - 48 : Nat) : Int) := by rw [IntKind.wrap_u8']; omega
    clear HD HV
    go_enter Tryd.func43, Tryd.ntmps43
    go_wp2
    go_ret2
    refine ⟨?_, rfl⟩
    rw [HV2.out, HV3.out]
    first | rfl | exact congrArg (fun v => Ending.returned (Value.tuple #[Value.int .u8 v, Value.bool true])) (by omega)
  by_cases h2 : m ≤ 64
  · have hl : 58 ≤ m := by omega
    have n48 : decide (48 ≤ m) = true := decide_eq_true (by omega)
    have i48 : decide ((48 : Int) ≤ (m : Int)) = true := decide_eq_true (by omega)
    have n97 : decide (97 ≤ m) = false := decide_eq_false (by omega)
    have i97 : decide ((97 : Int) ≤ (m : Int)) = false := decide_eq_false (by omega)
    have n65 : decide (65 ≤ m) = false := decide_eq_false (by omega)
    have i65 : decide ((65 : Int) ≤ (m : Int)) = false := decide_eq_false (by omega)
    have n57 : decide (m ≤ 57) = false := decide_eq_false (by omega)
    have i57 : decide ((m : Int) ≤ 57) = false := decide_eq_false (by omega)
    have n102 : decide (m ≤ 102) = true := decide_eq_true (by omega)
    have i102 : decide ((m : Int) ≤ 102) = true := decide_eq_true (by omega)
    have n70 : decide (m ≤ 70) = true := decide_eq_true (by omega)
    have i70 : decide ((m : Int) ≤ 70) = true := decide_eq_true (by omega)
    have HV : Hid (digL c = 16) := by show _ = _; rw [HD.out]; (repeat' split) <;> omega
    have HV2 : Hid (digV c = 0) := by show _ = _; unfold digV; rw [HV.out, if_pos rfl]
    have HV3 : Hid (decide (digL c = 16) = true) := by show _ = _; rw [HV.out]; rfl
    clear HD HV
    go_enter Tryd.func43, Tryd.ntmps43
    go_wp2
    go_ret2
    refine ⟨?_, rfl⟩
    rw [HV2.out, HV3.out]
    first | rfl | exact congrArg (fun v => Ending.returned (Value.tuple #[Value.int .u8 v, Value.bool true])) (by omega)
  by_cases h3 : m ≤ 70
  · have hl : 65 ≤ m := by omega
    have n48 : decide (48 ≤ m) = true := decide_eq_true (by omega)
    have i48 : decide ((48 : Int) ≤ (m : Int)) = true := decide_eq_true (by omega)
    have n97 : decide (97 ≤ m) = false := decide_eq_false (by omega)
    have i97 : decide ((97 : Int) ≤ (m : Int)) = false := decide_eq_false (by omega)
    have n65 : decide (65 ≤ m) = true := decide_eq_true (by omega)
    have i65 : decide ((65 : Int) ≤ (m : Int)) = true := decide_eq_true (by omega)
    have n57 : decide (m ≤ 57) = false := decide_eq_false (by omega)
    have i57 : decide ((m : Int) ≤ 57) = false := decide_eq_false (by omega)
    have n102 : decide (m ≤ 102) = true := decide_eq_true (by omega)
    have i102 : decide ((m : Int) ≤ 102) = true := decide_eq_true (by omega)
    have n70 : decide (m ≤ 70) = true := decide_eq_true (by omega)
    have i70 : decide ((m : Int) ≤ 70) = true := decide_eq_true (by omega)
    have HV : Hid (digL c = m - 55) := by show _ = _; rw [HD.out]; (repeat' split) <;> omega
    have HV2 : Hid (digV c = m - 55) := by show _ = _; unfold digV; rw [HV.out, if_neg (by omega)]
    have HV3 : Hid (decide (digL c = 16) = false) := by show _ = _; rw [HV.out]; exact decide_eq_false (by omega)
    have es : IntKind.u8.wrap ((m : Int) - 65) = ((m - 65 : Nat) : Int) := by rw [IntKind.wrap_u8']; omega
    have es2 : IntKind.u8.wrap (((m - 65 : Nat) : Int) + 10) = ((m - 55 : Nat) : Int) := by rw [IntKind.wrap_u8']; omega
    clear HD HV
    go_enter Tryd.func43, Tryd.ntmps43
    go_wp2
    go_ret2
    refine ⟨?_, rfl⟩
    rw [HV2.out, HV3.out]
    first | rfl | exact congrArg (fun v => Ending.returned (Value.tuple #[Value.int .u8 v, Value.bool true])) (by omega)
  by_cases h4 : m ≤ 96
  · have hl : 71 ≤ m := by omega
    have n48 : decide (48 ≤ m) = true := decide_eq_true (by omega)
    have i48 : decide ((48 : Int) ≤ (m : Int)) = true := decide_eq_true (by omega)
    have n97 : decide (97 ≤ m) = false := decide_eq_false (by omega)
    have i97 : decide ((97 : Int) ≤ (m : Int)) = false := decide_eq_false (by omega)
    have n65 : decide (65 ≤ m) = true := decide_eq_true (by omega)
    have i65 : decide ((65 : Int) ≤ (m : Int)) = true := decide_eq_true (by omega)
    have n57 : decide (m ≤ 57) = false := decide_eq_false (by omega)
    have i57 : decide ((m : Int) ≤ 57) = false := decide_eq_false (by omega)
    have n102 : decide (m ≤ 102) = true := decide_eq_true (by omega)
    have i102 : decide ((m : Int) ≤ 102) = true := decide_eq_true (by omega)
    have n70 : decide (m ≤ 70) = false := decide_eq_false (by omega)
    have i70 : decide ((m : Int) ≤ 70) = false := decide_eq_false (by omega)
    have HV : Hid (digL c = 16) := by show _ = _; rw [HD.out]; (repeat' split) <;> omega
    have HV2 : Hid (digV c = 0) := by show _ = _; unfold digV; rw [HV.out, if_pos rfl]
    have HV3 : Hid (decide (digL c = 16) = true) := by show _ = _; rw [HV.out]; rfl
    clear HD HV
    go_enter Tryd.func43, Tryd.ntmps43
    go_wp2
    go_ret2
    refine ⟨?_, rfl⟩
    rw [HV2.out, HV3.out]
    first | rfl | exact congrArg (fun v => Ending.returned (Value.tuple #[Value.int .u8 v, Value.bool true])) (by omega)
  by_cases h5 : m ≤ 102
  · have hl : 97 ≤ m := by omega
    have n48 : decide (48 ≤ m) = true := decide_eq_true (by omega)
    have i48 : decide ((48 : Int) ≤ (m : Int)) = true := decide_eq_true (by omega)
    have n97 : decide (97 ≤ m) = true := decide_eq_true (by omega)
    have i97 : decide ((97 : Int) ≤ (m : Int)) = true := decide_eq_true (by omega)
    have n65 : decide (65 ≤ m) = true := decide_eq_true (by omega)
    have i65 : decide ((65 : Int) ≤ (m : Int)) = true := decide_eq_true (by omega)
    have n57 : decide (m ≤ 57) = false := decide_eq_false (by omega)
    have i57 : decide ((m : Int) ≤ 57) = false := decide_eq_false (by omega)
    have n102 : decide (m ≤ 102) = true := decide_eq_true (by omega)
    have i102 : decide ((m : Int) ≤ 102) = true := decide_eq_true (by omega)
    have n70 : decide (m ≤ 70) = false := decide_eq_false (by omega)
    have i70 : decide ((m : Int) ≤ 70) = false := decide_eq_false (by omega)
    have HV : Hid (digL c = m - 87) := by show _ = _; rw [HD.out]; (repeat' split) <;> omega
    have HV2 : Hid (digV c = m - 87) := by show _ = _; unfold digV; rw [HV.out, if_neg (by omega)]
    have HV3 : Hid (decide (digL c = 16) = false) := by show _ = _; rw [HV.out]; exact decide_eq_false (by omega)
    have es : IntKind.u8.wrap ((m : Int) - 97) = ((m - 97 : Nat) : Int) := by rw [IntKind.wrap_u8']; omega
    have es2 : IntKind.u8.wrap (((m - 97 : Nat) : Int) + 10) = ((m - 87 : Nat) : Int) := by rw [IntKind.wrap_u8']; omega
    clear HD HV
    go_enter Tryd.func43, Tryd.ntmps43
    go_wp2
    go_ret2
    refine ⟨?_, rfl⟩
    rw [HV2.out, HV3.out]
    first | rfl | exact congrArg (fun v => Ending.returned (Value.tuple #[Value.int .u8 v, Value.bool true])) (by omega)
  · have hl : 103 ≤ m := by omega
    have n48 : decide (48 ≤ m) = true := decide_eq_true (by omega)
    have i48 : decide ((48 : Int) ≤ (m : Int)) = true := decide_eq_true (by omega)
    have n97 : decide (97 ≤ m) = true := decide_eq_true (by omega)
    have i97 : decide ((97 : Int) ≤ (m : Int)) = true := decide_eq_true (by omega)
    have n65 : decide (65 ≤ m) = true := decide_eq_true (by omega)
    have i65 : decide ((65 : Int) ≤ (m : Int)) = true := decide_eq_true (by omega)
    have n57 : decide (m ≤ 57) = false := decide_eq_false (by omega)
    have i57 : decide ((m : Int) ≤ 57) = false := decide_eq_false (by omega)
    have n102 : decide (m ≤ 102) = false := decide_eq_false (by omega)
    have i102 : decide ((m : Int) ≤ 102) = false := decide_eq_false (by omega)
    have n70 : decide (m ≤ 70) = false := decide_eq_false (by omega)
    have i70 : decide ((m : Int) ≤ 70) = false := decide_eq_false (by omega)
    have HV : Hid (digL c = 16) := by show _ = _; rw [HD.out]; (repeat' split) <;> omega
    have HV2 : Hid (digV c = 0) := by show _ = _; unfold digV; rw [HV.out, if_pos rfl]
    have HV3 : Hid (decide (digL c = 16) = true) := by show _ = _; rw [HV.out]; rfl
    clear HD HV
    go_enter Tryd.func43, Tryd.ntmps43
    go_wp2
    go_ret2
    refine ⟨?_, rfl⟩
    rw [HV2.out, HV3.out]
    first | rfl | exact congrArg (fun v => Ending.returned (Value.tuple #[Value.int .u8 v, Value.bool true])) (by omega)

/-- The bytes of the first z digits, one behind the other, noughts behind them. -/
def packK (L : Bs) : Nat → Option Bs
  | 0 => some (List.replicate 32 0)
  | z + 1 => match packK L z with
    | none => none
    | some B => if digL (L.getD z 0) = 16 then none else some (B.set (z / 2) (UInt8.ofNat (16 * (B.getD (z / 2) 0).toNat + digL (L.getD z 0))))
theorem packK_none (L : Bs) (z : Nat) (h : packK L z = none) : ∀ j, z ≤ j → packK L j = none := by
  intro j hj
  induction j with
  | zero => rw [show z = 0 by omega] at h; exact h
  | succ j ih =>
    rcases Nat.lt_or_ge z (j + 1) with h1 | h1
    · rw [packK, ih (by omega)]
    · rw [show z = j + 1 by omega] at h; exact h
theorem packK_length (L : Bs) : ∀ z B, packK L z = some B → B.length = 32
  | 0, B, h => by simp [packK] at h; subst h; rfl
  | z + 1, B, h => by
    rw [packK] at h
    cases e : packK L z with
    | none => rw [e] at h; cases h
    | some D =>
      rw [e] at h
      simp only at h
      split at h
      · cases h
      · cases h; rw [List.length_set]; exact packK_length L z D e
theorem pack_parse (L : Bs) : ∀ k, k ≤ 32 → packK L (2 * k) = (parseK L k).map fun o => o ++ List.replicate (32 - k) 0 := by
  intro k
  induction k with
  | zero => intro _; rfl
  | succ k ih =>
    intro hk
    have i := ih (by omega)
    rw [show 2 * (k + 1) = 2 * k + 1 + 1 by omega, packK, packK, i, parseK]
    cases hp : parseK L k with
    | none => rfl
    | some o =>
      have hl := parseK_length L k o hp
      simp only [Option.map_some]
      have e1 : 2 * k / 2 = k := by omega
      have e2 : (2 * k + 1) / 2 = k := by omega
      have er : List.replicate (32 - k) (0 : UInt8) = 0 :: List.replicate (32 - (k + 1)) 0 := by rw [show 32 - k = 32 - (k + 1) + 1 by omega, List.replicate_succ]
      rw [e1, e2, er]
      by_cases h1 : digL (L.getD (2 * k) 0) = 16
      · rw [if_pos h1, if_pos (.inl h1)]; rfl
      · rw [if_neg h1]
        simp only
        by_cases h2 : digL (L.getD (2 * k + 1) 0) = 16
        · rw [if_pos h2, if_pos (.inr h2)]; rfl
        · rw [if_neg h2, if_neg (by omega)]
          have g1 : (o ++ (0 : UInt8) :: List.replicate (32 - (k + 1)) 0).getD k 0 = 0 := by
            rw [List.getD, List.getElem?_append_right (by omega), hl, Nat.sub_self]; rfl
          have s1 : ∀ a b : UInt8, (o ++ a :: List.replicate (32 - (k + 1)) 0).set k b = o ++ b :: List.replicate (32 - (k + 1)) 0 := fun a b => by
            rw [List.set_append_right _ _ (by omega), hl, Nat.sub_self]; rfl
          have g2 : ∀ a : UInt8, (o ++ a :: List.replicate (32 - (k + 1)) 0).getD k 0 = a := fun a => by
            rw [List.getD, List.getElem?_append_right (by omega), hl, Nat.sub_self]; rfl
          have hd1 := digL_le (L.getD (2 * k) 0)
          have hd2 := digL_le (L.getD (2 * k + 1) 0)
          rw [g1, s1, g2, s1]
          simp only [Option.map_some, List.append_assoc, List.cons_append, List.nil_append]
          congr 3
          have e0 : (0 : UInt8).toNat = 0 := rfl
          rw [e0, UInt8.toNat_ofNat', Nat.mul_zero, Nat.zero_add, Nat.mod_eq_of_lt (by omega)]
theorem pack_all (L : Bs) : packK L 64 = parseK L 32 := by
  rw [show 64 = 2 * 32 from rfl, pack_parse L 32 (Nat.le_refl _)]
  cases h : parseK L 32 <;> simp
/-- One digit into a byte. -/
theorem digit_in (x : UInt8) (d : Nat) (hd : d < 16) : bits .or .u8 ((x.toNat : Int) * 16 % 256) (d : Int) = ((UInt8.ofNat (16 * x.toNat + d)).toNat : Int) := by
  have hx := x.toNat_lt
  rw [show (x.toNat : Int) * 16 % 256 = ((x.toNat * 16 % 256 : Nat) : Int) by omega, u8_or_nat _ _ (by omega) (by omega), UInt8.toNat_ofNat']
  congr 1
  have h1 : x.toNat * 16 % 256 = (x.toNat % 16) <<< 4 := by rw [Nat.shiftLeft_eq]; omega
  rw [h1, ← Nat.shiftLeft_add_eq_or_of_lt (by omega : d < 2 ^ 4), Nat.shiftLeft_eq]
  omega
theorem Tryd.ids32 : (Tryd.prog.info? 46).map (fun i => (i.zero, i.size)) = some (some (.agg (cells (List.replicate 32 0)).toArray), (cells (List.replicate 32 0)).toArray.size) := by kernel_rfl

theorem rb_blk {w : World} {g : Nat} {t : TypeId} {L : Bs} (h : Blk w g t (cells L).toArray) : RB w w.heap.size (some ⟨g, 0, none⟩) L := by
  refine ⟨by simp [cells_length], fun h0 => ⟨_, rfl, h.lt, fun j u hu => ?_⟩⟩
  have e : (⟨g, 0, none⟩ : Addr).add j = ⟨g, j, none⟩ := by unfold Addr.add; split <;> simp_all
  rw [e, (blk_cell h j).1]
  simpa using hu
set_option maxRecDepth 100000 in
set_option maxHeartbeats 1000000 in
theorem idsParse_any (L : Bs) (w : World) (hl : L.length ≤ 10000) : Calls Tryd.prog 26 #[.string (text L)] w fun e w' => e = .returned (idErr (parseL L)) ∧ Below w.heap.size w w' := by
  obtain ⟨t, ht⟩ : ∃ t, t = text L := ⟨_, rfl⟩
  obtain ⟨n, hn⟩ : ∃ n, n = L.length := ⟨_, rfl⟩
  have hts : t.size = n := by rw [ht, hn]; exact text_size L
  have HI : Hid (∀ k, k < n → ∀ V, (Instr.index 9 (.string t) (.int .i64 (k : Int))).run Tryd.prog V = .ok (.int .u8 ((L.getD k 0).toNat : Int)) V) := fun k hk V => by
    rw [ht]; exact index_text L .i64 k V (by omega)
  have HN := Lib.hid hn
  rw [← ht]
  clear ht hn hl
  by_cases h64 : n = 64
  · have HT : Hid (t.size = 64) := hts.trans h64
    have hts := HT.out
    have HL : Hid (parseL L = packK L 64) := by show _ = _; rw [pack_all]; unfold parseL; rw [if_pos (by rw [← HN.out]; exact h64)]
    go_enter Tryd.func26, Tryd.ntmps26
    go_wp2_with (first
      | (refine wpList_alloc_letter rfl 46 rfl (some 4) rfl _ Tryd.ids32 ?_; intro g w2 hw2 hg2))
    have b2 : Below w.heap.size w w2 := letter_below hw2 (Below.refl _ _) (Nat.le_refl _)
    have k2 : Blk w2 g 46 (cells (List.replicate 32 0)).toArray := letter_blk hw2 hg2
    have hg : w.heap.size ≤ g := by have := hg2.out; omega
    clear hw2 hg2
    go_loopw [5, 6, 7, 13] (fun x5 x6 x7 i wr => ∃ (z : Nat) (B : Bs), z ≤ 64 ∧ i = .int .i64 (z : Int) ∧ Hid (packK L z = some B) ∧ Blk wr g 46 (cells B).toArray ∧ Below w.heap.size w wr) (fun _ _ _ i _ => 64 - (intOf i).toNat)
    case atStart => exact ⟨0, _, by omega, rfl, rfl, k2, b2⟩
    case round =>
      clear k2 b2
      obtain ⟨z, B, hz, rfl, HO, hB, hb⟩ := hrel
      have u0 : (0 : Int) ≤ (z : Int) := by omega
      have hBl : B.length = 32 := packK_length L z B HO.out
      by_cases hlt : z < 64
      · have u1 : (z : Int) < 64 := by omega
        obtain ⟨c, hc⟩ : ∃ c, c = L.getD z 0 := ⟨_, rfl⟩
        have hi := HI.out z (by omega)
        rw [← hc] at hi
        obtain ⟨a, ha⟩ : ∃ a, a = digV c := ⟨_, rfl⟩
        obtain ⟨bd, hbd⟩ : ∃ b, b = !decide (digL c = 16) := ⟨_, rfl⟩
        have HDc : Hid (∀ V, Calls Tryd.prog 43 #[.int .u8 (c.toNat : Int)] V fun e w' => e = .returned (.tuple #[.int .u8 (a : Int), .bool bd]) ∧ V = w') := fun V => by rw [ha, hbd]; exact idsDigit_any c V
        have HP : Hid (packK L (z + 1) = if digL c = 16 then none else some (B.set (z / 2) (UInt8.ofNat (16 * (B.getD (z / 2) 0).toNat + digL c)))) := by
          show _ = _
          rw [packK, HO.out, ← hc]
        by_cases h1 : digL c = 16
        · have hbf : bd = false := by rw [hbd, h1]; rfl
          subst hbf
          have HF : Hid (parseL L = none) := by show _ = _; rw [HL.out]; exact packK_none L (z + 1) (by rw [HP.out, if_pos h1]) 64 (by omega)
          clear hc ha hbd HI HP HO h1 hB hBl
          go_wp2_with (first
            | (go_at_call 43; (with_reducible refine (HDc.out _).mono ?_); rintro e w' ⟨rfl, rfl⟩))
          go_ret2
          exact ⟨by rw [HF.out]; rfl, hb⟩
        · have hbt : bd = true := by rw [hbd, decide_eq_false h1]; rfl
          subst hbt
          have hav : a = digL c := by rw [ha]; unfold digV; rw [if_neg h1]
          have ha16 : a < 16 := by have := digL_le c; omega
          obtain ⟨x, hx⟩ : ∃ x, x = B.getD (z / 2) 0 := ⟨_, rfl⟩
          have hz32 : z / 2 < 32 := by omega
          have c3 : wr.cell? ⟨g, z / 2, none⟩ = some (.int .u8 (x.toNat : Int)) := by rw [hx]; exact cblk_cell hB (by omega)
          have f3 : wr.frozen? ⟨g, z / 2, none⟩ = false := hB.frozen _
          have ev := digit_in x a ha16
          obtain ⟨y, hy⟩ : ∃ y, y = UInt8.ofNat (16 * x.toNat + a) := ⟨_, rfl⟩
          rw [← hy] at ev
          obtain ⟨D, hD⟩ : ∃ D, D = B.set (z / 2) y := ⟨_, rfl⟩
          have HB2 : Hid (Blk (wr.setCell ⟨g, z / 2, none⟩ (.int .u8 (y.toNat : Int))) g 46 (cells D).toArray) := by
            rw [hD]; exact cblk_set hB (z / 2) _
          have HO2 : Hid (packK L (z + 1) = some D) := by show _ = _; rw [HP.out, if_neg h1, hD, hy, hx, hav]
          have hq : (z : Int).tdiv 2 = ((z / 2 : Nat) : Int) := by rw [Int.tdiv_eq_ediv_of_nonneg (by omega)]; simp
          have u2 : ((z / 2 : Nat) : Int) < 32 := by omega
          clear hc ha hbd HI HP HO h1 hB hBl hav hx hD hy HL
          go_wp2_with (first
            | (go_at_call 43; (with_reducible refine (HDc.out _).mono ?_); rintro e w' ⟨rfl, rfl⟩))
          refine ⟨⟨z + 1, D, by omega, by go_num, HO2, HB2.out, hb.setCell hg _⟩, ?_⟩
          simp [intOf]; omega
      · have h64z : z = 64 := by omega
        have HF : Hid (parseL L = some B) := by show _ = _; rw [HL.out, ← h64z]; exact HO.out
        have hfr : RB wr wr.heap.size (some ⟨g, 0, none⟩) B := rb_blk hB
        have est := aw_str hfr 32 32 hBl.symm
        clear h64z HO HL hfr HI hBl
        go_wp2
        go_ret2
        exact ⟨by rw [HF.out]; rfl, hb⟩
  · have HF : Hid (parseL L = none) := by show _ = _; unfold parseL; rw [if_neg (by rw [← HN.out]; exact h64)]
    have hne : ¬ ((n : Int) = 64) := by omega
    clear HI
    go_enter Tryd.func26, Tryd.ntmps26
    go_wp2
    go_ret2
    exact ⟨by rw [HF.out]; rfl, Below.refl _ _⟩


end Go.Proofs.YtmmilgjdngdnfaaDoor
