/- The walks of the reference's Hex, digit and Parse (layer 4). -/
import Derived.Test.YtmmilgjdngdnfaaDoorIdsDigits
import Derived.Test.YtmmilgjdngdnfaaDoorIdsRef
import Derived.StillTailTactics
import Derived.Test.YtmmilgjdngdnfaaDoorShaPText
set_option linter.unusedVariables false
namespace Go.Proofs.YtmmilgjdngdnfaaDoor
open Go.RowKit

/-- One byte of a text. -/
theorem index_text (L : Bs) (kk : IntKind) (k : Nat) (V : World) (hk : k < L.length) : (Instr.index 9 (.string (text L)) (.int kk (k : Int))).run Tryd.prog V = .ok (.int .u8 ((L.getD k 0).toNat : Int)) V := by
  rw [run_index_string _ _ _ _ _ Tryd.underlying9]
  have hs := text_size L
  rw [dif_pos ⟨by omega, by omega⟩]
  have e : (k : Int).toNat = k := by omega
  have hb : (text L)[(k : Int).toNat]'(by omega) = L.getD k 0 := by
    simp only [e]
    show L.toArray[k]'(by simpa using hk) = _
    simp [List.getD, List.getElem?_eq_getElem hk]
  rw [hb]
theorem hexD_text : text hexD = { data := #[48, 49, 50, 51, 52, 53, 54, 55, 56, 57, 97, 98, 99, 100, 101, 102] } := rfl

set_option maxRecDepth 100000 in
set_option maxHeartbeats 1000000 in
theorem refHex_any (L : Bs) (w : World) (hl : L.length ≤ 1000) :
    Calls Tryd.prog 29 #[.string (text L)] w fun e w' => e = .returned (.string (text (hexL L))) ∧ Below w.heap.size w w' := by
  obtain ⟨i0, hi0, hz0, hz1, hz2⟩ := info_parts Tryd.info5
  obtain ⟨t, ht⟩ : ∃ t, t = text L := ⟨_, rfl⟩
  obtain ⟨n, hn⟩ : ∃ n, n = L.length := ⟨_, rfl⟩
  have hts : t.size = n := by rw [ht, hn]; exact text_size L
  have HI : Hid (∀ k, k < n → ∀ V, (Instr.index 9 (.string t) (.int .i64 (k : Int))).run Tryd.prog V = .ok (.int .u8 ((L.getD k 0).toNat : Int)) V) := fun k hk V => by
    rw [ht]; exact index_text L .i64 k V (by omega)
  have HD : Hid (∀ k : Nat, k < 16 → ∀ V, (Instr.index 9 (.string { data := #[48, 49, 50, 51, 52, 53, 54, 55, 56, 57, 97, 98, 99, 100, 101, 102] }) (.int .u8 (k : Int))).run Tryd.prog V = .ok (.int .u8 ((hexd k).toNat : Int)) V) := fun k hk V => by
    rw [← hexD_text]; exact index_text hexD .u8 k V hk
  have HN := Lib.hid hn
  have hn1 : n ≤ 1000 := by omega
  rw [← ht]
  clear ht hn
  go_enter Tryd.func29, Tryd.ntmps29
  go_wp2
  go_loopw [4, 5] (fun v i wr => ∃ (k y : Nat), k ≤ n ∧ i = .int .i64 (k : Int) ∧ Hid (y = 2 * k) ∧ y ≤ 2000 ∧ wr.ownsRow w.heap.size 5 1 v y (cells ((L.take k).flatMap hexB)) ∧ Below w.heap.size w wr) (fun _ i _ => n - (intOf i).toNat)
  case atStart => exact ⟨0, 0, by omega, rfl, rfl, by omega, World.ownsRow_nil _ _ _ _, Below.refl _ _⟩
  case round =>
    obtain ⟨k, y, hk, rfl, HY, hy, hown, hb⟩ := hrel
    have u0 : (0 : Int) ≤ (k : Int) := by omega
    by_cases hlt : k < n
    · have u1 : (k : Int) < (n : Int) := by omega
      obtain ⟨b, hbx⟩ : ∃ b, b = L.getD k 0 := ⟨_, rfl⟩
      have hb256 := b.toNat_lt
      have hi := HI.out k hlt
      rw [← hbx] at hi
      obtain ⟨q, hq⟩ : ∃ q, q = b.toNat / 16 := ⟨_, rfl⟩
      obtain ⟨r, hr⟩ : ∃ r, r = b.toNat % 16 := ⟨_, rfl⟩
      have e1 : (b.toNat : Int) / 16 = (q : Int) := by omega
      have e2 : (b.toNat : Int) % 16 = (r : Int) := by omega
      have e3 : (b.toNat : Int).tdiv 16 = (q : Int) := by rw [Int.tdiv_eq_ediv_of_nonneg (by omega)]; exact e1
      have e4 : (b.toNat : Int).tmod 16 = (r : Int) := by rw [Int.tmod_eq_emod_of_nonneg (by omega)]; exact e2
      have hq16 : q < 16 := by omega
      have eq8 : IntKind.u8.wrap (q : Int) = (q : Int) := by rw [IntKind.wrap_u8']; omega
      have er8 : IntKind.u8.wrap (r : Int) = (r : Int) := by rw [IntKind.wrap_u8']; omega
      have hr16 : r < 16 := by omega
      obtain ⟨x1, hx1⟩ : ∃ x, x = hexd q := ⟨_, rfl⟩
      obtain ⟨x2, hx2⟩ : ∃ x, x = hexd r := ⟨_, rfl⟩
      have hd1 := HD.out q hq16
      have hd2 := HD.out r hr16
      rw [← hx1] at hd1
      rw [← hx2] at hd2
      have HF : Hid ((L.take (k + 1)).flatMap hexB = (L.take k).flatMap hexB ++ [x1, x2]) := by
        show _ = _
        have hkL : k < L.length := by have := HN.out; omega
        have e : L[k] = b := by rw [hbx, List.getD, List.getElem?_eq_getElem hkL]; rfl
        rw [List.take_succ_eq_append_getElem hkL, List.flatMap_append, e, hx1, hx2, hq, hr]
        simp [hexB]
      have HC : Hid ((#[.int .u8 (x1.toNat : Int), .int .u8 (x2.toNat : Int)] : Array Value) = (cells [x1, x2]).toArray) := rfl
      have hyk : y < 2000 - 1 := by have := HY.out; have := HN.out; omega
      have HLt := Lib.hid hlt
      clear hbx hq hr hx1 hx2 HI HD hb256
      go_wp2
      have HNW := Lib.hid (show Reads (wr.alloc (.cells #[.int .u8 (x1.toNat : Int), .int .u8 (x2.toNat : Int)] 5)) (wr.heap.size + 1) 1 (some ⟨wr.heap.size, 0, none⟩) 2 (cells [x1, x2]) from rb_new wr [x1, x2])
      have hz8 := hb.size
      go_region_law (refine step_append_any _ rfl (.tmp 12) (.tmp 25) _ rfl w.heap.size 5 i0 _ 1 1 Tryd.underlying39 hi0 hz0 hz1 hz2 rfl (by omega) _ y (cells ((L.take k).flatMap hexB)) rfl (World.ownsRow.drew (World.ownsRow.alloc hown _)) (wr.heap.size + 1) (some ⟨wr.heap.size, 0, none⟩) 2 2 (cells [x1, x2]) rfl (Reads.drew HNW.out) (cells_one _) (by simp only [maxLen]; omega) (by omega) (by simp; omega) ?_; intro v9 w9 ho9 hg9 hat9; have hb9 : Below w.heap.size w w9 := (Below.drew (hb.alloc hz8 _)).grown hg9 (by show w.heap.size ≤ (wr.alloc _).heap.size; simp; omega) (fun q hq => (hown.lt q hq).1); rw [← cells_append, ← HF.out] at ho9)
      all_goals
        clear hown hb hg9 hat9 HNW
        go_wp2
        have hlt := HLt.out
        refine ⟨⟨k + 1, y + 2, by omega, by go_num, by show _ = _; rw [HY.out]; omega, by omega, ho9, hb9⟩, ?_⟩
        simp [intOf]; omega
    · have hfin : (L.take k).flatMap hexB = hexL L := by unfold hexL; rw [List.take_of_length_le (by have := HN.out; omega)]
      rw [hfin] at hown
      have hlen : (hexL L).length = y := by have := hown.1; rw [cells_length] at this; omega
      obtain ⟨A8, c8, rfl⟩ := own_form hown
      have hfr : RB wr wr.heap.size A8 (hexL L) := by refine Reads.of_own (base := w.heap.size) (e := 5) (c := c8) ?_; rw [hlen]; exact hown
      have est := aw_str hfr y c8 hlen.symm
      clear hfin hlen hown hfr HI HD
      go_wp2
      go_ret
      exact ⟨rfl, hb⟩

set_option maxRecDepth 100000 in
set_option maxHeartbeats 1000000 in
theorem refDigit_any (c : UInt8) (w : World) : Calls Tryd.prog 44 #[.int .u8 (c.toNat : Int)] w fun e w' => e = .returned (.int .i64 (digL c : Int)) ∧ w = w' := by
  have hc := c.toNat_lt
  obtain ⟨m, hm⟩ : ∃ m, m = c.toNat := ⟨_, rfl⟩
  have HD : Hid (digL c = if 48 ≤ m ∧ m ≤ 57 then m - 48 else if 97 ≤ m ∧ m ≤ 102 then m - 87 else if 65 ≤ m ∧ m ≤ 70 then m - 55 else 16) := by show _ = _; rw [hm]; rfl
  rw [← hm] at hc ⊢
  clear hm
  by_cases h0 : m ≤ 47
  · have hl : 0 ≤ m := by omega
    have g48 : decide ((m : Int) ≥ 48) = false := decide_eq_false (by omega)
    have n48 : decide (48 ≤ m) = false := decide_eq_false (by omega)
    have i48 : decide ((48 : Int) ≤ (m : Int)) = false := decide_eq_false (by omega)
    have g97 : decide ((m : Int) ≥ 97) = false := decide_eq_false (by omega)
    have n97 : decide (97 ≤ m) = false := decide_eq_false (by omega)
    have i97 : decide ((97 : Int) ≤ (m : Int)) = false := decide_eq_false (by omega)
    have g65 : decide ((m : Int) ≥ 65) = false := decide_eq_false (by omega)
    have n65 : decide (65 ≤ m) = false := decide_eq_false (by omega)
    have i65 : decide ((65 : Int) ≤ (m : Int)) = false := decide_eq_false (by omega)
    have n57 : decide (m ≤ 57) = true := decide_eq_true (by omega)
    have i57 : decide ((m : Int) ≤ 57) = true := decide_eq_true (by omega)
    have n102 : decide (m ≤ 102) = true := decide_eq_true (by omega)
    have i102 : decide ((m : Int) ≤ 102) = true := decide_eq_true (by omega)
    have n70 : decide (m ≤ 70) = true := decide_eq_true (by omega)
    have i70 : decide ((m : Int) ≤ 70) = true := decide_eq_true (by omega)
    have HV : Hid (digL c = 16) := by show _ = _; rw [HD.out]; (repeat' split) <;> omega
    clear HD
    go_enter Tryd.func44, Tryd.ntmps44
    go_wp2
    go_ret
    refine ⟨?_, rfl⟩
    rw [HV.out]
    first | rfl | exact congrArg (fun v => Ending.returned (Value.int .i64 v)) (by omega)
  by_cases h1 : m ≤ 57
  · have hl : 48 ≤ m := by omega
    have g48 : decide ((m : Int) ≥ 48) = true := decide_eq_true (by omega)
    have n48 : decide (48 ≤ m) = true := decide_eq_true (by omega)
    have i48 : decide ((48 : Int) ≤ (m : Int)) = true := decide_eq_true (by omega)
    have g97 : decide ((m : Int) ≥ 97) = false := decide_eq_false (by omega)
    have n97 : decide (97 ≤ m) = false := decide_eq_false (by omega)
    have i97 : decide ((97 : Int) ≤ (m : Int)) = false := decide_eq_false (by omega)
    have g65 : decide ((m : Int) ≥ 65) = false := decide_eq_false (by omega)
    have n65 : decide (65 ≤ m) = false := decide_eq_false (by omega)
    have i65 : decide ((65 : Int) ≤ (m : Int)) = false := decide_eq_false (by omega)
    have n57 : decide (m ≤ 57) = true := decide_eq_true (by omega)
    have i57 : decide ((m : Int) ≤ 57) = true := decide_eq_true (by omega)
    have n102 : decide (m ≤ 102) = true := decide_eq_true (by omega)
    have i102 : decide ((m : Int) ≤ 102) = true := decide_eq_true (by omega)
    have n70 : decide (m ≤ 70) = true := decide_eq_true (by omega)
    have i70 : decide ((m : Int) ≤ 70) = true := decide_eq_true (by omega)
    have HV : Hid (digL c = m - 48) := by show _ = _; rw [HD.out]; (repeat' split) <;> omega
    clear HD
    have es : IntKind.u8.wrap ((m : Int) - 48) = ((m - 48 : Nat) : Int) := by rw [IntKind.wrap_u8']; omega
    go_enter Tryd.func44, Tryd.ntmps44
    go_wp2
    go_ret
    refine ⟨?_, rfl⟩
    rw [HV.out]
    first | rfl | exact congrArg (fun v => Ending.returned (Value.int .i64 v)) (by omega)
  by_cases h2 : m ≤ 64
  · have hl : 58 ≤ m := by omega
    have g48 : decide ((m : Int) ≥ 48) = true := decide_eq_true (by omega)
    have n48 : decide (48 ≤ m) = true := decide_eq_true (by omega)
    have i48 : decide ((48 : Int) ≤ (m : Int)) = true := decide_eq_true (by omega)
    have g97 : decide ((m : Int) ≥ 97) = false := decide_eq_false (by omega)
    have n97 : decide (97 ≤ m) = false := decide_eq_false (by omega)
    have i97 : decide ((97 : Int) ≤ (m : Int)) = false := decide_eq_false (by omega)
    have g65 : decide ((m : Int) ≥ 65) = false := decide_eq_false (by omega)
    have n65 : decide (65 ≤ m) = false := decide_eq_false (by omega)
    have i65 : decide ((65 : Int) ≤ (m : Int)) = false := decide_eq_false (by omega)
    have n57 : decide (m ≤ 57) = false := decide_eq_false (by omega)
    have i57 : decide ((m : Int) ≤ 57) = false := decide_eq_false (by omega)
    have n102 : decide (m ≤ 102) = true := decide_eq_true (by omega)
    have i102 : decide ((m : Int) ≤ 102) = true := decide_eq_true (by omega)
    have n70 : decide (m ≤ 70) = true := decide_eq_true (by omega)
    have i70 : decide ((m : Int) ≤ 70) = true := decide_eq_true (by omega)
    have HV : Hid (digL c = 16) := by show _ = _; rw [HD.out]; (repeat' split) <;> omega
    clear HD
    go_enter Tryd.func44, Tryd.ntmps44
    go_wp2
    go_ret
    refine ⟨?_, rfl⟩
    rw [HV.out]
    first | rfl | exact congrArg (fun v => Ending.returned (Value.int .i64 v)) (by omega)
  by_cases h3 : m ≤ 70
  · have hl : 65 ≤ m := by omega
    have g48 : decide ((m : Int) ≥ 48) = true := decide_eq_true (by omega)
    have n48 : decide (48 ≤ m) = true := decide_eq_true (by omega)
    have i48 : decide ((48 : Int) ≤ (m : Int)) = true := decide_eq_true (by omega)
    have g97 : decide ((m : Int) ≥ 97) = false := decide_eq_false (by omega)
    have n97 : decide (97 ≤ m) = false := decide_eq_false (by omega)
    have i97 : decide ((97 : Int) ≤ (m : Int)) = false := decide_eq_false (by omega)
    have g65 : decide ((m : Int) ≥ 65) = true := decide_eq_true (by omega)
    have n65 : decide (65 ≤ m) = true := decide_eq_true (by omega)
    have i65 : decide ((65 : Int) ≤ (m : Int)) = true := decide_eq_true (by omega)
    have n57 : decide (m ≤ 57) = false := decide_eq_false (by omega)
    have i57 : decide ((m : Int) ≤ 57) = false := decide_eq_false (by omega)
    have n102 : decide (m ≤ 102) = true := decide_eq_true (by omega)
    have i102 : decide ((m : Int) ≤ 102) = true := decide_eq_true (by omega)
    have n70 : decide (m ≤ 70) = true := decide_eq_true (by omega)
    have i70 : decide ((m : Int) ≤ 70) = true := decide_eq_true (by omega)
    have HV : Hid (digL c = m - 55) := by show _ = _; rw [HD.out]; (repeat' split) <;> omega
    clear HD
    have es : IntKind.u8.wrap ((m : Int) - 65) = ((m - 65 : Nat) : Int) := by rw [IntKind.wrap_u8']; omega
    go_enter Tryd.func44, Tryd.ntmps44
    go_wp2
    go_ret
    refine ⟨?_, rfl⟩
    rw [HV.out]
    first | rfl | exact congrArg (fun v => Ending.returned (Value.int .i64 v)) (by omega)
  by_cases h4 : m ≤ 96
  · have hl : 71 ≤ m := by omega
    have g48 : decide ((m : Int) ≥ 48) = true := decide_eq_true (by omega)
    have n48 : decide (48 ≤ m) = true := decide_eq_true (by omega)
    have i48 : decide ((48 : Int) ≤ (m : Int)) = true := decide_eq_true (by omega)
    have g97 : decide ((m : Int) ≥ 97) = false := decide_eq_false (by omega)
    have n97 : decide (97 ≤ m) = false := decide_eq_false (by omega)
    have i97 : decide ((97 : Int) ≤ (m : Int)) = false := decide_eq_false (by omega)
    have g65 : decide ((m : Int) ≥ 65) = true := decide_eq_true (by omega)
    have n65 : decide (65 ≤ m) = true := decide_eq_true (by omega)
    have i65 : decide ((65 : Int) ≤ (m : Int)) = true := decide_eq_true (by omega)
    have n57 : decide (m ≤ 57) = false := decide_eq_false (by omega)
    have i57 : decide ((m : Int) ≤ 57) = false := decide_eq_false (by omega)
    have n102 : decide (m ≤ 102) = true := decide_eq_true (by omega)
    have i102 : decide ((m : Int) ≤ 102) = true := decide_eq_true (by omega)
    have n70 : decide (m ≤ 70) = false := decide_eq_false (by omega)
    have i70 : decide ((m : Int) ≤ 70) = false := decide_eq_false (by omega)
    have HV : Hid (digL c = 16) := by show _ = _; rw [HD.out]; (repeat' split) <;> omega
    clear HD
    go_enter Tryd.func44, Tryd.ntmps44
    go_wp2
    go_ret
    refine ⟨?_, rfl⟩
    rw [HV.out]
    first | rfl | exact congrArg (fun v => Ending.returned (Value.int .i64 v)) (by omega)
  by_cases h5 : m ≤ 102
  · have hl : 97 ≤ m := by omega
    have g48 : decide ((m : Int) ≥ 48) = true := decide_eq_true (by omega)
    have n48 : decide (48 ≤ m) = true := decide_eq_true (by omega)
    have i48 : decide ((48 : Int) ≤ (m : Int)) = true := decide_eq_true (by omega)
    have g97 : decide ((m : Int) ≥ 97) = true := decide_eq_true (by omega)
    have n97 : decide (97 ≤ m) = true := decide_eq_true (by omega)
    have i97 : decide ((97 : Int) ≤ (m : Int)) = true := decide_eq_true (by omega)
    have g65 : decide ((m : Int) ≥ 65) = true := decide_eq_true (by omega)
    have n65 : decide (65 ≤ m) = true := decide_eq_true (by omega)
    have i65 : decide ((65 : Int) ≤ (m : Int)) = true := decide_eq_true (by omega)
    have n57 : decide (m ≤ 57) = false := decide_eq_false (by omega)
    have i57 : decide ((m : Int) ≤ 57) = false := decide_eq_false (by omega)
    have n102 : decide (m ≤ 102) = true := decide_eq_true (by omega)
    have i102 : decide ((m : Int) ≤ 102) = true := decide_eq_true (by omega)
    have n70 : decide (m ≤ 70) = false := decide_eq_false (by omega)
    have i70 : decide ((m : Int) ≤ 70) = false := decide_eq_false (by omega)
    have HV : Hid (digL c = m - 87) := by show _ = _; rw [HD.out]; (repeat' split) <;> omega
    clear HD
    have es : IntKind.u8.wrap ((m : Int) - 97) = ((m - 97 : Nat) : Int) := by rw [IntKind.wrap_u8']; omega
    go_enter Tryd.func44, Tryd.ntmps44
    go_wp2
    go_ret
    refine ⟨?_, rfl⟩
    rw [HV.out]
    first | rfl | exact congrArg (fun v => Ending.returned (Value.int .i64 v)) (by omega)
  · have hl : 103 ≤ m := by omega
    have g48 : decide ((m : Int) ≥ 48) = true := decide_eq_true (by omega)
    have n48 : decide (48 ≤ m) = true := decide_eq_true (by omega)
    have i48 : decide ((48 : Int) ≤ (m : Int)) = true := decide_eq_true (by omega)
    have g97 : decide ((m : Int) ≥ 97) = true := decide_eq_true (by omega)
    have n97 : decide (97 ≤ m) = true := decide_eq_true (by omega)
    have i97 : decide ((97 : Int) ≤ (m : Int)) = true := decide_eq_true (by omega)
    have g65 : decide ((m : Int) ≥ 65) = true := decide_eq_true (by omega)
    have n65 : decide (65 ≤ m) = true := decide_eq_true (by omega)
    have i65 : decide ((65 : Int) ≤ (m : Int)) = true := decide_eq_true (by omega)
    have n57 : decide (m ≤ 57) = false := decide_eq_false (by omega)
    have i57 : decide ((m : Int) ≤ 57) = false := decide_eq_false (by omega)
    have n102 : decide (m ≤ 102) = false := decide_eq_false (by omega)
    have i102 : decide ((m : Int) ≤ 102) = false := decide_eq_false (by omega)
    have n70 : decide (m ≤ 70) = false := decide_eq_false (by omega)
    have i70 : decide ((m : Int) ≤ 70) = false := decide_eq_false (by omega)
    have HV : Hid (digL c = 16) := by show _ = _; rw [HD.out]; (repeat' split) <;> omega
    clear HD
    go_enter Tryd.func44, Tryd.ntmps44
    go_wp2
    go_ret
    refine ⟨?_, rfl⟩
    rw [HV.out]
    first | rfl | exact congrArg (fun v => Ending.returned (Value.int .i64 v)) (by omega)

end Go.Proofs.YtmmilgjdngdnfaaDoor
