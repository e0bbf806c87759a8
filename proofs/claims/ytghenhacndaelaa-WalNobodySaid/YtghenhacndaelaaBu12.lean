/- Lemmas under the proofs of this place: CrcMore, Fix, Skip. No statement is proved here. -/
import Derived.Test.YtghenhacndaelaaBu09
import Derived.Test.YtghenhacndaelaaBu08
import Derived.Lib.Hide
set_option linter.unusedSimpArgs false
set_option linter.unusedVariables false
set_option maxRecDepth 100000
set_option maxHeartbeats 16000000
namespace Go.Proofs.Ytghenhacndaelaa
section
open Go.RowKit
theorem more_any (s : Nat) (L : List UInt8) (A : Option Addr) (c B : Nat) (w : World) (hs : s < 4294967296) (hr : RB w B A L) (hl : L.length ≤ 9223372036854775806) :
    Calls Try.prog 77 #[.int .u32 (s : Int), .slice A L.length c] w fun e w' => e = .returned (.int .u32 (moreL s L : Int)) ∧ w = w' := by
  have hx0 : s ^^^ 4294967295 < 4294967296 := Nat.xor_lt_two_pow (n := 32) hs (by decide)
  obtain ⟨z, hz⟩ : ∃ z : Nat, z = s ^^^ 4294967295 := ⟨_, rfl⟩
  have HN : Hid (bits .xor .u32 IntKind.u32.max (s : Int) = (z : Int)) := by show _ = _; rw [hz]; exact u32_not s hs
  have HM : Hid (moreL s L = raw z L ^^^ 4294967295) := by show _ = _; rw [hz]; rfl
  rw [← hz] at hx0
  clear hz hs
  go_enter Try.func77, Try.ntmps77
  go_wp2
  go_loop [5, 12] (fun r i => ∃ k : Nat, k ≤ L.length ∧ i = .int .i64 (k : Int) ∧ r = .int .u32 (raw z (L.take k) : Int)) (fun _ i => L.length - (intOf i).toNat)
  case atStart => exact ⟨0, by omega, rfl, congrArg (Value.int .u32) HN.out⟩
  case round =>
    obtain ⟨k, hk, rfl, rfl⟩ := hrel
    obtain ⟨x, hx⟩ : ∃ x : Nat, x = raw z (L.take k) := ⟨_, rfl⟩
    have hxl : x < 4294967296 := by rw [hx]; exact raw_lt _ _ hx0
    rw [← hx]
    by_cases hlt : k < L.length
    · obtain ⟨b, off, rfl, hb, hc⟩ := RB.at_ hr (by omega)
      have hck := hc k hlt
      have HR : Hid (raw z (L.take (k + 1)) = stps 8 (x ^^^ L[k].toNat)) := by show _ = _; rw [hx]; exact raw_take z L k hlt
      have HY : Hid (bits .xor .u32 (x : Int) ((L[k].toNat : Int) % 4294967296) = ((x ^^^ L[k].toNat : Nat) : Int)) := u32_byte x L[k] hxl
      have hyl : x ^^^ L[k].toNat < 4294967296 := Nat.xor_lt_two_pow (n := 32) hxl (byte_lt32 _)
      clear hc hx hr
      go_wp2
      go_loop [5, 20] (fun r i => ∃ j : Nat, j ≤ 8 ∧ i = .int .i64 (j : Int) ∧ r = .int .u32 (stps j (x ^^^ L[k].toNat) : Int)) (fun _ i => 8 - (intOf i).toNat)
      case atStart => exact ⟨0, by omega, rfl, congrArg (Value.int .u32) HY.out⟩
      case round =>
        obtain ⟨j, hj, rfl, rfl⟩ := hrel
        by_cases hlt2 : j < 8
        · have HS := Lib.hid (u32_step (stps j (x ^^^ L[k].toNat)) (stps_lt j _ hyl))
          have HT := Lib.hid (stps_succ j (x ^^^ L[k].toNat))
          go_wp2
          go_round
          case rel => exact ⟨j + 1, by omega, by go_num, by rw [HT.out]; exact congrArg (Value.int .u32) HS.out⟩
          case measure => simp [intOf]; omega
        · obtain rfl : j = 8 := by omega
          go_wp2
          go_round
          case rel => exact ⟨k + 1, by omega, by go_num, by rw [HR.out]⟩
          case measure => simp [intOf]; omega
    · have HE : Hid (bits .xor .u32 IntKind.u32.max (x : Int) = (moreL s L : Int)) := by
        show _ = _
        rw [u32_not x hxl, HM.out, hx, List.take_of_length_le (by omega)]
      clear hx
      go_wp2
      go_ret
      exact ⟨congrArg (fun v => Ending.returned (Value.int .u32 v)) HE.out, rfl⟩
theorem sum_any (L : List UInt8) (A : Option Addr) (c B : Nat) (w : World) (hr : RB w B A L) (hl : L.length ≤ 9223372036854775806) :
    Calls Try.prog 69 #[.slice A L.length c] w fun e w' => e = .returned (.int .u32 (sumL L : Int)) ∧ w = w' := by
  go_enter Try.func69, Try.ntmps69
  go_wp2_with (go_at_call 77; refine (more_any 0 L A c B _ (by decide) hr hl).mono ?_; rintro e w' ⟨rfl, rfl⟩)
  go_ret
  exact ⟨rfl, rfl⟩
end
section
open Go.RowKit
theorem shr_test (n k : Nat) : (((n : Int) / 2 ^ (8 * k)) != 0) = !decide (n < 256 ^ k) := by
  have hc : ((n : Int) / 2 ^ (8 * k)) = ((n / 256 ^ k : Nat) : Int) := by rw [pow_256]; simp
  rw [hc]
  by_cases h : n < 256 ^ k
  · have : n / 256 ^ k = 0 := Nat.div_eq_of_lt h
    simp [h, this]
  · have hp : 0 < 256 ^ k := Nat.pow_pos (by omega)
    have : n / 256 ^ k ≠ 0 := by
      have := Nat.div_pos (Nat.le_of_not_lt h) hp; omega
    simp only [h, decide_false, Bool.not_false]
    simp only [bne_iff_ne, ne_eq]
    omega
theorem fix_byte (n j : Nat) : IntKind.u8.wrap ((n : Int) / 2 ^ (8 * j)) = ((UInt8.ofNat (n / 256 ^ j % 256)).toNat : Int) := by
  have hc : ((n : Int) / 2 ^ (8 * j)) = ((n / 256 ^ j : Nat) : Int) := by rw [pow_256]; simp
  rw [hc, ofNat_toNat _ (by omega)]
  simp [IntKind.wrap, IntKind.bits, IntKind.signed]
theorem fix_set (L : List UInt8) (j : Nat) (h : j < L.length) (z : Value) : (cells (L.take j) ++ List.replicate (L.length - j) z).set j (.int .u8 (L[j].toNat : Int)) = cells (L.take (j + 1)) ++ List.replicate (L.length - (j + 1)) z := by
  have e : L.length - j = (L.length - (j + 1)) + 1 := by omega
  have hl : (cells (L.take j)).length = j := by rw [cells_length, List.length_take]; omega
  rw [List.set_append, if_neg (by omega), hl, Nat.sub_self, e, List.replicate_succ, List.set_cons_zero, List.take_succ_eq_append_getElem h, cells_append]
  simp [cells]
theorem fix_yes (n k : Nat) (w : World) (h : n ≤ 2147483647) (hk1 : 1 ≤ k) (hk4 : k ≤ 4) (hn : n < 256 ^ k) : Calls Try.prog 60 #[.int .i64 (n : Int), .int .i64 (k : Int)] w (GivesBytes (fixL k n) w) := by
  obtain ⟨i0, hi0, hz0, hz1, hz2⟩ := info_parts Try.info5
  have hby : i0.bytes = 1 := hz2
  have hl : (fixL k n).length = k := fixL_length k n
  have hc1 : decide ((k : Int) < 1) = false := by simp; omega
  have hc4 : decide (4 < (k : Int)) = false := by simp; omega
  have ht : (((n : Int) / 2 ^ (8 * k)) != 0) = false := by rw [shr_test]; simp [hn]
  have HL := Lib.hid hl
  clear hl hn
  go_enter Try.func60, Try.ntmps60
  go_wp2_with (first
    | (go_at_call 76; refine (isNumber_yes _ _ (by omega) (by omega)).mono ?_; rintro e w' ⟨rfl, rfl⟩)
    | (at_make; refine wpList_make_full _ rfl _ _ 38 rfl w.heap.size 5 i0 _ 1 Try.underlying38 hi0 hz0 hz1 .i64 .i64 _ _ k rfl rfl rfl rfl (by rw [hby]; omega) (by unfold maxLen; omega) (Nat.le_refl _) ?_; intro w1 hown hgrow))
  simp only [Nat.mul_one, show (Value.int IntKind.u8 0).cells = #[Value.int IntKind.u8 0] from rfl, toList_madeCells_one] at hown
  have hb1 : Below w.heap.size w w1 := (Below.refl _ _).grown hgrow (Nat.le_refl _) (by simp)
  have hsz : w.heap.size < w1.heap.size := (hown.lt w.heap.size rfl).2
  have HI : Hid (List.replicate k (Value.int .u8 0) = cells ((fixL k n).take 0) ++ List.replicate ((fixL k n).length - 0) (Value.int .u8 0)) := by show _ = _; rw [HL.out]; rfl
  go_loopw [31] (fun i wr => ∃ j : Nat, j ≤ k ∧ i = .int .i64 (j : Int) ∧ wr.ownsRow w.heap.size 5 1 (.slice (some ⟨w.heap.size, 0, none⟩) k k) k (cells ((fixL k n).take j) ++ List.replicate ((fixL k n).length - j) (Value.int .u8 0)) ∧ Below w.heap.size w wr) (fun i _ => k - (intOf i).toNat)
  case atStart => exact ⟨0, by omega, rfl, by rw [← HI.out]; exact hown, hb1⟩
  case round =>
    obtain ⟨j, hj, rfl, hown2, hb2⟩ := hrel
    clear hown hgrow hb1 hsz
    by_cases hlt : j < k
    · have hjl : j < (fixL k n).length := by rw [HL.out]; exact hlt
      have hcell : wr.cell? ⟨w.heap.size, j, none⟩ = some (.int .u8 0) := by
        rw [hown2.cellAt j (by omega), List.getElem?_append_right (by rw [cells_length, List.length_take]; omega), cells_length, List.length_take, Nat.min_eq_left (by omega), Nat.sub_self, List.getElem?_replicate, if_pos (by omega)]
      have hfr : wr.frozen? ⟨w.heap.size, j, none⟩ = false := hown2.frozenAt j
      obtain ⟨b, hb⟩ : ∃ b : UInt8, b = (fixL k n)[j] := ⟨_, rfl⟩
      have hbb : IntKind.u8.wrap ((n : Int) / 2 ^ (8 * j)) = (b.toNat : Int) := by
        rw [fix_byte]
        have e := fixL_get k n j hlt
        rw [List.getElem?_eq_getElem hjl, Option.some.injEq] at e
        rw [hb, e]
      have hst := (hown2.stored j (.int .u8 (b.toNat : Int))).1
      rw [hb, fix_set _ _ hjl, ← hb] at hst
      have hb3 : Below w.heap.size w (wr.setCell ⟨w.heap.size, j, none⟩ (.int .u8 (b.toNat : Int))) := hb2.setCell (Nat.le_refl _) _
      clear hb hown2 hjl
      go_wp2
      go_roundw
      case rel => exact ⟨j + 1, by omega, by go_num, hst, hb3⟩
      case measure => simp [intOf]; omega
    · obtain rfl : k = j := by omega
      have e : cells ((fixL k n).take k) ++ List.replicate ((fixL k n).length - k) (Value.int .u8 0) = cells (fixL k n) := by
        rw [List.take_of_length_le (by rw [HL.out]; omega), HL.out, Nat.sub_self]; simp
      rw [e] at hown2
      have HW : Hid (wr.ownsRow w.heap.size 5 1 (.slice (some ⟨w.heap.size, 0, none⟩) k k) k (cells (fixL k n))) := hown2
      clear hown2 e
      go_wp2
      go_ret2
      refine ⟨some ⟨w.heap.size, 0, none⟩, k, by rw [HL.out]; exact rfl, ?_, hb2⟩
      unfold Own
      rw [HL.out]
      exact HW.out
end
section
open Go.RowKit
theorem any_skip {P : Program} {ops : Array Oper} {Q : Exit → Act → World → Prop} {md : Region.Mode} {S : World → Prop} {T : Nat → Bool} {i fuel : Nat} {oi : Oper} {listed listed' : Array Bool} {a a' : Act} {w : World} (hi : ops[i]? = some oi) (hs : Region.noSelect ops = true) (hf : Region.free md ops listed i = true) (hr : (Region.ready md ops listed).contains i = true)
    (hT : T i = false) (hwt : waits_ md ops T i = true) (hw : Region.wanted oi (yielded ops a.tmps) = false) (hS : S w) (ha : a.put oi.dst undef = a') (hl : listed.setIfInBounds i true = listed') (hQ : ∀ c a w, Q (.panic c) (a.put oi.dst undef) w → Q (.panic c) a w)
    (h : wpAnyT P md ops Q S T fuel listed' a' w) : wpAnyT P md ops Q S T (fuel + 1) listed a w := by
  subst ha hl
  exact wpAnyT_first hi hwt hT (Region.noSelect_spec hs) hQ fuel listed a w (Region.free_spec hi hf) (by simpa using hr) (.inr ⟨hw, rfl⟩) hS h
theorem skip_d {P : Program} {ops : Array Oper} {Q : Exit → Act → World → Prop} {md : Region.Mode} {S : World → Prop} {T : Nat → Bool} {i fuel : Nat} {oi : Oper} {listed : Array Bool} {a : Act} {w : World} (d : Nat) (hi : ops[i]? = some oi) (hd : oi.dst = some d) (hs : Region.noSelect ops = true) (hf : Region.free md ops listed i = true) (hr : (Region.ready md ops listed).contains i = true)
    (hT : T i = false) (hwt : waits_ md ops T i = true) (hw : Region.wanted oi (yielded ops a.tmps) = false) (hS : S w) (hQ : ∀ c a w, Q (.panic c) (a.put oi.dst undef) w → Q (.panic c) a w)
    (h : wpAnyT P md ops Q S T fuel (listed.setIfInBounds i true) (a.put (some d) undef) w) : wpAnyT P md ops Q S T (fuel + 1) listed a w :=
  any_skip hi hs hf hr hT hwt hw hS (by rw [hd]) rfl hQ h
theorem take_d {P : Program} {ops : Array Oper} {Q : Exit → Act → World → Prop} {md : Region.Mode} {S : World → Prop} {T : Nat → Bool} {i fuel : Nat} {oi : Oper} {listed : Array Bool} {a : Act} {w : World} (v : Value) (d : Nat) (hi : ops[i]? = some oi) (hd : oi.dst = some d) (hs : Region.noSelect ops = true) (hf : Region.free md ops listed i = true) (hr : (Region.ready md ops listed).contains i = true)
    (hT : T i = false) (hwt : waits_ md ops T i = true) (hw : Region.wanted oi (yielded ops a.tmps) = true) (hy : ∀ w, S w → (execOp a.eval oi).run P w = .ok (.value v) w) (hS : S w) (hQ : ∀ c a w, Q (.panic c) (a.put oi.dst v) w → Q (.panic c) a w)
    (h : wpAnyT P md ops Q S T fuel (listed.setIfInBounds i true) (a.put (some d) v) w) : wpAnyT P md ops Q S T (fuel + 1) listed a w :=
  any_take v hi hs hf hr hT hwt hw hy hS (by rw [hd]) rfl hQ h
end
end Go.Proofs.Ytghenhacndaelaa
