/- The walk of the reference's Parse (layer 4). -/
import Derived.Test.YtmmilgjdngdnfaaDoorIdsHex
set_option linter.unusedVariables false
namespace Go.Proofs.YtmmilgjdngdnfaaDoor
open Go.RowKit

/-- An ID and an error's number. -/
def idErr (r : Option Bs) : Value := match r with
  | none => .tuple #[.string { data := #[] }, .int .i64 5]
  | some o => .tuple #[.string (text o), .int .i64 0]
theorem parseL_none {s : Bs} {k : Nat} (hk : k ≤ 32) (h : parseK s k = none) : parseL s = none := by
  unfold parseL
  split
  · exact parseK_none s k h 32 hk
  · rfl

set_option maxRecDepth 100000 in
set_option maxHeartbeats 1000000 in
theorem refParse_any (L : Bs) (w : World) :
    Calls Tryd.prog 27 #[.string (text L)] w fun e w' => e = .returned (idErr (parseL L)) ∧ Below w.heap.size w w' := by
  obtain ⟨t, ht⟩ : ∃ t, t = text L := ⟨_, rfl⟩
  obtain ⟨n, hn⟩ : ∃ n, n = L.length := ⟨_, rfl⟩
  have hts : t.size = n := by rw [ht, hn]; exact text_size L
  have HI : Hid (∀ k, k < n → ∀ V, (Instr.index 9 (.string t) (.int .i64 (k : Int))).run Tryd.prog V = .ok (.int .u8 ((L.getD k 0).toNat : Int)) V) := fun k hk V => by
    rw [ht]; exact index_text L .i64 k V (by omega)
  have HN := Lib.hid hn
  rw [← ht]
  clear ht hn
  by_cases h64 : n = 64
  · have HT : Hid (t.size = 64) := hts.trans h64
    have hts := HT.out
    have HL : Hid (parseL L = parseK L 32) := by show _ = _; unfold parseL; rw [if_pos (by rw [← HN.out]; exact h64)]
    go_enter Tryd.func27, Tryd.ntmps27
    go_wp2
    go_loopw [4, 5, 6, 7] (fun v i v6 v7 wr => ∃ (k z : Nat) (o : Bs), k ≤ 32 ∧ Hid (z = 2 * k) ∧ z ≤ 64 ∧ i = .int .i64 (z : Int) ∧ Hid (parseK L k = some o) ∧ wr.ownsRow w.heap.size 5 1 v k (cells o) ∧ Below w.heap.size w wr) (fun _ i _ _ _ => 64 - (intOf i).toNat)
    case atStart => exact ⟨0, 0, [], by omega, rfl, by omega, rfl, rfl, World.ownsRow_nil _ _ _ _, Below.refl _ _⟩
    case round =>
      obtain ⟨k, z, o, hk, HZ, hz, rfl, HO, hown, hb⟩ := hrel
      have u0 : (0 : Int) ≤ (z : Int) := by omega
      by_cases hlt : z < 64
      · have hz1 : z + 1 < 64 := by have := HZ.out; omega
        have u1 : (z : Int) < 64 := by omega
        have ez : IntKind.i64.wrap ((z : Int) + 1) = ((z + 1 : Nat) : Int) := (IntWalk.i64_in _ (by omega)).trans (by omega)
        obtain ⟨c, hc⟩ : ∃ c, c = L.getD z 0 := ⟨_, rfl⟩
        obtain ⟨d, hd⟩ : ∃ d, d = L.getD (z + 1) 0 := ⟨_, rfl⟩
        have hi1 := HI.out z (by omega)
        have hi2 := HI.out (z + 1) (by omega)
        rw [← hc] at hi1
        rw [← hd] at hi2
        have hi3 : ∀ V, (Instr.index 9 (.string t) (.int .i64 ((z : Int) + 1))).run Tryd.prog V = .ok (.int .u8 (d.toNat : Int)) V := fun V => by rw [show ((z : Int) + 1) = ((z + 1 : Nat) : Int) by omega]; exact hi2 V
        obtain ⟨a, ha⟩ : ∃ a, a = digL c := ⟨_, rfl⟩
        obtain ⟨b, hbd⟩ : ∃ b, b = digL d := ⟨_, rfl⟩
        have ha16 : a ≤ 16 := by rw [ha]; exact digL_le c
        have hb16 : b ≤ 16 := by rw [hbd]; exact digL_le d
        have HDc : Hid (∀ V, Calls Tryd.prog 44 #[.int .u8 (c.toNat : Int)] V fun e w' => e = .returned (.int .i64 (a : Int)) ∧ V = w') := fun V => by rw [ha]; exact refDigit_any c V
        have HDd : Hid (∀ V, Calls Tryd.prog 44 #[.int .u8 (d.toNat : Int)] V fun e w' => e = .returned (.int .i64 (b : Int)) ∧ V = w') := fun V => by rw [hbd]; exact refDigit_any d V
        have HP : Hid (parseK L (k + 1) = if a = 16 ∨ b = 16 then none else some (o ++ [UInt8.ofNat (16 * a + b)])) := by
          show _ = _
          rw [parseK, HO.out, ← HZ.out, ← hc, ← hd, ← ha, ← hbd]
        have HK : Hid (k + 1 ≤ 32) := by have := HZ.out; show _ ≤ _; omega
        clear hc hd ha hbd HI hz
        by_cases h1 : a = 16
        · have g1 : decide ((a : Int) = 16) = true := decide_eq_true (by omega)
          have g2 : ((a : Int) == 16) = true := by rw [beq_iff_eq]; omega
          have g3 : decide (a = 16) = true := decide_eq_true h1
          have g4 : (a == 16) = true := by rw [beq_iff_eq]; exact h1
          have HF : Hid (parseL L = none) := parseL_none HK.out (by rw [HP.out, if_pos (.inl h1)])
          clear HO HP HK h1 hown
          go_wp2
          go_quiet (first | (with_reducible exact quiet_same HDc) | (with_reducible exact quiet_same HDd))
          go_wp2
          go_ret2
          exact ⟨by rw [HF.out]; rfl, ⟨hb.os, hb.tape, hb.output, hb.size, hb.block⟩⟩
        · have g1 : decide ((a : Int) = 16) = false := decide_eq_false (by omega)
          have g2 : ((a : Int) == 16) = false := by rw [beq_eq_false_iff_ne]; omega
          have g3 : decide (a = 16) = false := decide_eq_false h1
          have g4 : (a == 16) = false := by rw [beq_eq_false_iff_ne]; exact h1
          by_cases h2 : b = 16
          · have k1 : decide ((b : Int) = 16) = true := decide_eq_true (by omega)
            have k2 : ((b : Int) == 16) = true := by rw [beq_iff_eq]; omega
            have k3 : decide (b = 16) = true := decide_eq_true h2
            have k4 : (b == 16) = true := by rw [beq_iff_eq]; exact h2
            have HF : Hid (parseL L = none) := parseL_none HK.out (by rw [HP.out, if_pos (.inr h2)])
            clear HO HP HK h1 h2 hown
            go_wp2
            go_quiet (first | (with_reducible exact quiet_same HDc) | (with_reducible exact quiet_same HDd))
            go_wp2
            go_ret2
            exact ⟨by rw [HF.out]; rfl, ⟨hb.os, hb.tape, hb.output, hb.size, hb.block⟩⟩
          · have k1 : decide ((b : Int) = 16) = false := decide_eq_false (by omega)
            have k2 : ((b : Int) == 16) = false := by rw [beq_eq_false_iff_ne]; omega
            have k3 : decide (b = 16) = false := decide_eq_false h2
            have k4 : (b == 16) = false := by rw [beq_eq_false_iff_ne]; exact h2
            obtain ⟨x, hx⟩ : ∃ x, x = UInt8.ofNat (16 * a + b) := ⟨_, rfl⟩
            have hl256 : 16 * a + b < 256 := by omega
            have HX : Hid ((#[.int .u8 (16 * (a : Int) + (b : Int))] : Array Value) = (cells [x]).toArray) := by
              show _ = _
              have : x.toNat = 16 * a + b := by rw [hx, UInt8.toNat_ofNat']; omega
              simp only [cells, List.map_cons, List.map_nil]
              rw [this]
              congr 3
            have HO2 : Hid (parseK L (k + 1) = some (o ++ [x])) := by show _ = _; rw [HP.out, if_neg (by omega), hx]
            clear HO HP h1 h2 hx
            have Hown := Lib.hid hown
            clear hown
            go_wp2
            go_quiet (first | (with_reducible exact quiet_same HDc) | (with_reducible exact quiet_same HDd))
            have hbq : Below w.heap.size w (wr.drewN nq) := ⟨hb.os, hb.tape, hb.output, hb.size, hb.block⟩
            obtain ⟨hownq, _⟩ : (wr.drewN nq).ownsRow w.heap.size 5 1 u4 k (cells o) ∧ True := ⟨Hown.out, trivial⟩
            generalize wr.drewN nq = wq at hbq hownq ⊢
            clear hb Hown
            go_wp2_with (at_builtin; refine append_many rfl (.tmp 30) (.tmp 36) rfl k [x] _ 1 rfl hownq hbq (Nat.le_refl _) HX.out rfl rfl (by omega) ?_; intro v9 w9 ho9 hb9)
            refine ⟨⟨k + 1, z + 2, o ++ [x], HK.out, by show _ = _; rw [HZ.out]; omega, by omega, by go_num, HO2, ho9, hb9⟩, ?_⟩
            simp [intOf]; omega
      · have hk32 : k = 32 := by have := HZ.out; omega
        have HF : Hid (parseL L = some o) := by show _ = _; rw [HL.out, ← hk32]; exact HO.out
        have hlen : o.length = k := parseK_length L k o HO.out
        obtain ⟨A8, c8, rfl⟩ := own_form hown
        have hfr : RB wr wr.heap.size A8 o := by refine Reads.of_own (base := w.heap.size) (e := 5) (c := c8) ?_; rw [hlen]; exact hown
        have est := aw_str hfr k c8 hlen.symm
        clear hk32 HO HL hlen hown hfr HI
        go_wp2
        go_ret2
        exact ⟨by rw [HF.out]; rfl, hb⟩
  · have HF : Hid (parseL L = none) := by show _ = _; unfold parseL; rw [if_neg (by rw [← HN.out]; exact h64)]
    have hne : ¬ ((n : Int) = 64) := by omega
    clear HI
    go_enter Tryd.func27, Tryd.ntmps27
    go_wp2
    go_ret2
    exact ⟨by rw [HF.out]; rfl, Below.refl _ _⟩

end Go.Proofs.YtmmilgjdngdnfaaDoor
