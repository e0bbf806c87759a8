/- Lemmas under the proofs of this place: IdsPRightA, BytesOf, Put. No statement is proved here. -/
import Derived.Test.YtinphkflfdpaeaaDoorBu05
import Derived.Test.YtinphkflfdpaeaaDoorBu04
import Derived.Test.YtinphkflfdpaeaaDoorBu06
import Derived.Lib.ConvBytes
import Derived.Lib.AppendStr
set_option linter.unusedSimpArgs false
set_option linter.unusedVariables false
set_option maxRecDepth 100000
set_option maxHeartbeats 16000000
namespace Go.Proofs.YtinphkflfdpaeaaDoor
section
open Go.RowKit
theorem idsRight_at (L : Bs) (w : World) : Calls Tryd.prog 57 #[.string (text L)] w fun e w' => e = .returned (.bool (rightB L)) ∧ w = w' := by
  have hs := text_size L
  obtain ⟨t, ht⟩ : ∃ t, t = text L := ⟨_, rfl⟩
  rw [← ht] at hs ⊢
  have HB : Hid (rightB L = decide ((L.length : Int) = 32)) := by
    show _ = _
    unfold rightB
    rw [Bool.eq_iff_iff]; simp; omega
  clear ht
  go_enter Tryd.func57, Tryd.ntmps57
  go_wp2
  go_ret
  refine ⟨?_, rfl⟩
  rw [HB.out]
  rfl
theorem idsRight_any (L : Bs) (w : World) : Calls Tryd.prog 57 #[.string (text L)] w fun e w' => e = .returned (.bool (rightB L)) ∧ Below w.heap.size w w' :=
  (idsRight_at L w).mono fun e w' h => ⟨h.1, by rw [← h.2]; exact Below.refl _ _⟩
end
section
open Go.RowKit
theorem wpList_bytes_letter {ops : Array Oper} {rest : List Oper} {o : Oper} {a : Act} {w : World} {Q : Exit → Act → World → Prop} (hg : o.guard = none) (x : Operand) (ho : o.op = .convert 9 29 x)
    (dst : Option Tmp) (hdst : o.dst = dst) (M : Bs) (n : Nat) (hn : n = M.length) (hl : M.length ≤ 1000000) (hx : a.eval x = .string (text M))
    (h : ∀ g c W, Hid (g = w.heap.size) → Hid (n ≤ c) → Hid (c ≤ 9223372036854775807) → Hid (RB W W.heap.size (some ⟨g, 0, none⟩) M) → Hid (Below w.heap.size w W) → wpList Tryd.prog ops Q rest (a.put dst (.slice (some ⟨g, 0, none⟩) n c)) W) : wpList Tryd.prog ops Q (o :: rest) a w := by
  have hr := Lib.run_convert_string_bytes (P := Tryd.prog) w 9 29 5 (text M) Tryd.underlying9 Tryd.underlying29 Tryd.underlying5
  have hsz : (text M).size = n := by rw [text_size, hn]
  refine wpList_plain hg fun K hK => ?_
  unfold Oper.wp execOp
  subst hdst
  simp only [ho, hx, Sem.run_bind, hr, Sem.run_pure, Result.andThen_ok]
  rw [hsz]
  refine hK _ _ (h _ _ _ (Lib.hid rfl) ?_ ?_ ?_ ?_)
  · exact grownCap_ge _ _ _ _
  · exact grownCap_le_maxLen _ _ _ _ (by unfold maxLen; omega)
  · refine ⟨by simp [cells_length], fun h0 => ⟨_, rfl, ?_, fun j u hu => ?_⟩⟩
    · show w.heap.size < _
      rw [Lib.bytesWorld_size]; omega
    · have e : (⟨w.heap.size, 0, none⟩ : Addr).add j = ⟨w.heap.size, j, none⟩ := by unfold Addr.add; split <;> simp_all
      have hj : j < M.length := by have := (List.getElem?_eq_some_iff.1 hu).1; rwa [cells_length] at this
      rw [e, Lib.bytesWorld_cell _ _ _ _ (by rw [text_size]; exact hj), ← hu, cells_get _ _ hj]
      have et : (text M).data.toList = M := by show M.toArray.toList = M; simp
      rw [et]
      simp [List.getD, List.getElem?_eq_getElem hj]
  · refine ⟨rfl, rfl, rfl, by rw [Lib.bytesWorld_size]; omega, fun i hi => Lib.bytesWorld_at_old _ _ _ _ hi⟩
end
section
open Go.RowKit
theorem put_yes (n : Nat) (w : World) (h : n ≤ 2147483647) : Calls Tryd.prog 85 #[.int .i64 (n : Int)] w (GivesBytes (putL n) w) := by
  have hmk : ∀ w, (Instr.makeSlice 29 (.int .i64 0) (.int .i64 5)).run Tryd.prog w = .ok (.slice (some ⟨w.heap.size, 0, none⟩) 0 5) (w.alloc (.cells #[.int .u8 0, .int .u8 0, .int .u8 0, .int .u8 0, .int .u8 0] 5)) := fun _ => by kernel_rfl
  go_enter Tryd.func85, Tryd.ntmps85
  go_wp2_with (go_at_call 86; refine (isNumber_yes _ _ (by omega) (by omega)).mono ?_; rintro e w' ⟨rfl, rfl⟩)
  go_loopw [4, 0] (fun v m wr => ∃ (k : Nat) (P : List UInt8), m = .int .i64 (k : Int) ∧ k ≤ 2147483647 ∧ P ++ putL k = putL n ∧ wr.ownsRow w.heap.size 5 1 v P.length (cells P) ∧ Below w.heap.size w wr)
    (fun _ m _ => (intOf m).toNat)
  case atStart => exact ⟨n, [], rfl, h, rfl, World.ownsRow_made _ _ 5 (Nat.le_refl _) (by decide) rfl, (Below.refl _ _).alloc (Nat.le_refl _) _⟩
  case round =>
    obtain ⟨k, P, rfl, hk, hP, hown, hbw⟩ := hrel
    have hlen : P.length + (putL k).length ≤ 5 := by rw [← List.length_append, hP]; exact putL_len5 n h
    have hpos := putL_len_pos k
    have hlen1 : P.length + 1 ≤ 1048576 := by omega
    have HP : Hid (P ++ putL k = putL n) := hP
    clear hP hlen hpos
    by_cases hlt : 128 ≤ k
    · have hlt' : (128 : Int) ≤ (k : Int) := by omega
      obtain ⟨b, hb⟩ : ∃ b : UInt8, b = UInt8.ofNat (k % 128 + 128) := ⟨_, rfl⟩
      have HB : Hid (((k : Int) % 128 + 128) = (b.toNat : Int)) := by rw [hb, ofNat_toNat _ (by omega)]; show (k : Int) % 128 + 128 = _; omega
      have HQ : Hid ((P ++ [b]) ++ putL (k / 128) = putL n) := by show (P ++ [b]) ++ putL (k / 128) = putL n; rw [← HP.out, putL_big k hlt, hb]; simp
      clear hb
      go_wp2_with (at_builtin; refine append_byte rfl _ _ rfl b rfl hown hbw (Nat.le_refl _) HB.out rfl hlen1 ?_; intro v' w1 hown' hbw')
      go_roundw
      case rel => exact ⟨k / 128, P ++ [b], by go_num, by omega, HQ.out, hown', hbw'⟩
      case measure => simp [intOf]; omega
    · have hlt' : (k : Int) < 128 := by omega
      obtain ⟨b, hb⟩ : ∃ b : UInt8, b = UInt8.ofNat k := ⟨_, rfl⟩
      have HB : Hid ((k : Int) = (b.toNat : Int)) := by rw [hb, ofNat_toNat _ (by omega)]; rfl
      have HQ : Hid (P ++ [b] = putL n) := by show P ++ [b] = putL n; rw [← HP.out, putL_small k (by omega), hb]
      clear hb
      go_wp2_with (at_builtin; refine append_byte rfl _ _ rfl b rfl hown hbw (Nat.le_refl _) HB.out rfl hlen1 ?_; intro v' w1 hown' hbw')
      rw [HQ.out] at hown'
      obtain ⟨A, c, hv⟩ := own_form hown'
      go_ret2
      exact ⟨A, c, by rw [hv]; rfl, by rw [hv] at hown'; exact hown', hbw'⟩
end
end Go.Proofs.YtinphkflfdpaeaaDoor
