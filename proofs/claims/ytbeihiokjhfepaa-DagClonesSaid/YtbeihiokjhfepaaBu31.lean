/- Lemmas under the proofs of this place: DagDraw, DagFew. No statement is proved here. -/
import Derived.Test.YtbeihiokjhfepaaBu30
import Derived.Test.YtbeihiokjhfepaaBu08
import Derived.Deep.RegionHeldLaw
set_option linter.unusedSimpArgs false
set_option linter.unusedVariables false
set_option maxRecDepth 100000
set_option maxHeartbeats 16000000
namespace Go.Proofs.Ytbeihiokjhfepaa
section
open Go.RowKit
theorem addD (b off j : Nat) : (⟨b, off, none⟩ : Addr).add j = ⟨b, off + j, none⟩ := by unfold Addr.add; split <;> simp_all
theorem nidx_run {o : Oper} {a : Act} {W : World} (x y : Operand) (b off n c i : Nat) (ho : o.op = .indexAddr 22 x y) (hx : a.eval x = .slice (some ⟨b, off, none⟩) n c) (hy : a.eval y = .int .i64 (i : Int)) (hi : i < n) :
    (execOp a.eval o).run Try.prog W = .ok (.value (.pointer (some ⟨b, off + i * 2, none⟩))) W := by
  have hu : (underlying 22).run Try.prog W = .ok (.slice 35) W := by kernel_rfl
  have hs : (sizeOf 35).run Try.prog W = .ok 2 W := by kernel_rfl
  unfold execOp
  simp [ho, hx, hy, Instr.indexAt, asIntOf, hu, hi, hs, addD]
theorem sidx_run {o : Oper} {a : Act} {W : World} (x y : Operand) (b off n c i : Nat) (ho : o.op = .indexAddr 33 x y) (hx : a.eval x = .slice (some ⟨b, off, none⟩) n c) (hy : a.eval y = .int .i64 (i : Int)) (hi : i < n) :
    (execOp a.eval o).run Try.prog W = .ok (.value (.pointer (some ⟨b, off + i, none⟩))) W := by
  have hu : (underlying 33).run Try.prog W = .ok (.slice 9) W := by kernel_rfl
  have hs : (sizeOf 9).run Try.prog W = .ok 1 W := by kernel_rfl
  unfold execOp
  simp [ho, hx, hy, Instr.indexAt, asIntOf, hu, hi, hs, addD]
theorem nfld0_run {o : Oper} {a : Act} {W : World} (x : Operand) (b off : Nat) (ho : o.op = .fieldAddr 35 x 0) (hx : a.eval x = .pointer (some ⟨b, off, none⟩)) : (execOp a.eval o).run Try.prog W = .ok (.value (.pointer (some ⟨b, off, none⟩))) W := by
  unfold execOp
  simp only [ho, hx]
  kernel_rfl
theorem nfld1_run {o : Oper} {a : Act} {W : World} (x : Operand) (b off : Nat) (ho : o.op = .fieldAddr 35 x 1) (hx : a.eval x = .pointer (some ⟨b, off, none⟩)) : (execOp a.eval o).run Try.prog W = .ok (.value (.pointer (some ⟨b, off + 1, none⟩))) W := by
  unfold execOp
  simp only [ho, hx]
  kernel_rfl
theorem dag_range {W : World} {g : Nat} {v : Value} (h : W.cell? ⟨g, 0, none⟩ = some v) : W.rangeAt g 0 [v] := by
  intro j u hj
  match j with
  | 0 => simp at hj; rw [← hj]; exact h
  | j + 1 => simp at hj
theorem dagload_run {o : Oper} {a : Act} {W : World} (x : Operand) (R : Nat) (A : Option Addr) (n c : Nat) (ho : o.op = .load 27 x) (hx : a.eval x = .pointer (some ⟨R, 0, none⟩)) (hc : W.cell? ⟨R, 0, none⟩ = some (.slice A n c)) : (execOp a.eval o).run Try.prog W = .ok (.value (.agg #[.slice A n c])) W :=
  load_run 27 x R 0 [.slice A n c] _ ho hx (dag_range hc) Try.underlying27 rfl (by kernel_rfl) #[.slice A n c] rfl
def makeK (l : Gr) : Nat → Gr
  | 0 => []
  | k + 1 => (addG (makeK l k) (l.getD k nd0).id (l.getD k nd0).preds).1
def makeG (l : Gr) : Gr := makeK l l.length
theorem makeK_ok (l : Gr) : ∀ k, GrOk (makeK l k)
  | 0 => GrOk.nil
  | k + 1 => addG_ok (makeK_ok l k) _ _
theorem makeK_len (l : Gr) : ∀ k, (makeK l k).length ≤ k
  | 0 => Nat.le_refl _
  | k + 1 => by
    have h1 := (addG_le (makeK l k) (l.getD k nd0).id (l.getD k nd0).preds).1
    have h2 := makeK_len l k
    show (addG _ _ _).1.length ≤ _
    omega
end
section
open Go.RowKit
def idB (b : UInt8) : Bs := List.replicate 32 b
theorem lawid_any (b : UInt8) (z : Int) (hz : z = (b.toNat : Int)) (w : World) :
    Calls Try.prog 33 #[.int .u8 z] w fun e w' => e = .returned (.string (text (idB b))) ∧ Below w.heap.size w w' := by
  have HZ := Lib.hid hz
  have HB0 := Lib.hid (Below.refl w.heap.size w)
  clear hz
  go_enter Try.func33, Try.ntmps33
  go_wp2
  go_loopw [3, 4] (fun v i wr => ∃ (k : Nat) (P : List UInt8) (A : Option Addr) (c : Nat), k ≤ 32 ∧ v = .slice A P.length c ∧ i = .int .i64 (k : Int) ∧ Hid (P = List.replicate k b) ∧ Hid (wr.ownsRow w.heap.size 5 1 (.slice A P.length c) P.length (cells P)) ∧ Hid (Below w.heap.size w wr)) (fun _ i _ => 32 - (intOf i).toNat)
  case atStart => exact ⟨0, [], none, 0, by omega, rfl, rfl, rfl, World.ownsRow_nil _ _ _ _, HB0.out⟩
  case round =>
    obtain ⟨k, P, A, c, hk, rfl, rfl, HP, HO, HB⟩ := hrel
    obtain ⟨n, hn⟩ : ∃ n, n = P.length := ⟨_, rfl⟩
    have hnk : n = k := by rw [hn, HP.out]; simp
    have HN := Lib.hid hn
    have HNk := Lib.hid hnk
    rw [← hn]
    clear hnk
    by_cases hlt : k < 32
    · have d0 : decide ((k : Int) < 32) = true := decide_eq_true (by omega)
      clear hn
      go_wp2_with (at_builtin; refine append_byte rfl (.tmp 9) (.tmp 11) rfl b rfl (by rw [HN.out]; exact HO.out) HB.out (Nat.le_refl _) HZ.out rfl (by have h1 := HN.out; have h2 := HNk.out; omega) ?_; intro v7 w7 ho7 hb7; obtain ⟨A7, c7, hv7⟩ := own_form ho7; subst hv7)
      go_roundw
      case rel => exact ⟨k + 1, P ++ [b], A7, c7, by omega, (by rw [List.length_append]; rfl), by go_num, by show _ = _; rw [HP.out, List.replicate_succ'], ho7, hb7⟩
      case measure => simp [intOf]; omega
    · have hk32 : k = 32 := by omega
      have d0 : decide ((k : Int) < 32) = false := decide_eq_false (by omega)
      have hP : P = idB b := by rw [HP.out, hk32]; rfl
      have est := aw_str (own_rb HO.out) n c hn
      obtain ⟨t, ht⟩ : ∃ t, t = text P := ⟨_, rfl⟩
      rw [show ({ data := P.toArray } : ByteArray) = t from ht.symm] at est
      have HTt : Hid (t = text (idB b)) := by show _ = _; rw [ht, hP]
      clear hn hk32 hP ht
      go_wp2
      go_ret
      exact ⟨by rw [← HTt.out]; rfl, HB.out⟩
def fewG (l : Gr) : Prop := l.length ≤ 30 ∧ ∀ i, i < l.length → (l.getD i nd0).id.length ≤ 100 ∧ (l.getD i nd0).preds.length ≤ 20 ∧ ∀ j, j < (l.getD i nd0).preds.length → ((l.getD i nd0).preds.getD j []).length ≤ 100
theorem few_any (l : Gr) (A : Option Addr) (n c : Nat) (w : World) (hn : n = l.length) (h : NL w w.heap.size A l) :
    Calls Try.prog 9 #[.slice A n c] w fun e w' => ∃ b, e = .returned (.bool b) ∧ Hid (b = true → fewG l) ∧ Hid (Below w.heap.size w w') := by
  have HR : Hid (0 < l.length → ∃ b off, A = some ⟨b, off, none⟩ ∧ b < w.heap.size ∧ ∀ i, i < l.length → ∃ pA pc, SS w w.heap.size pA (l.getD i nd0).preds ∧ ((l.getD i nd0).preds.length ≤ pc ∧ pc ≤ 9223372036854775807) ∧ w.cell? ⟨b, off + i * 2, none⟩ = some (.string (text (l.getD i nd0).id)) ∧ w.cell? ⟨b, off + i * 2 + 1, none⟩ = some (.slice pA (l.getD i nd0).preds.length pc)) := fun hh => h.at_ hh
  have HN := Lib.hid hn
  have HB0 := Lib.hid (Below.refl w.heap.size w)
  clear hn h
  by_cases h30 : n ≤ 30
  · have e0 : decide ((n : Int) > 30) = false := decide_eq_false (by omega)
    have e1 : decide ((30 : Int) < (n : Int)) = false := decide_eq_false (by omega)
    go_enter Try.func9, Try.ntmps9
    go_wp2
    go_loopw [3] (fun v wr => ∃ k : Nat, k ≤ n ∧ v = .int .i64 (k : Int) ∧ Hid (∀ i, i < k → (l.getD i nd0).id.length ≤ 100 ∧ (l.getD i nd0).preds.length ≤ 20 ∧ ∀ j, j < (l.getD i nd0).preds.length → ((l.getD i nd0).preds.getD j []).length ≤ 100) ∧ Hid (Below w.heap.size w wr)) (fun v _ => n - (intOf v).toNat)
    case atStart => exact ⟨0, Nat.zero_le _, rfl, fun i hi => by omega, HB0.out⟩
    case round =>
      obtain ⟨k, hk, rfl, HF, HB⟩ := hrel
      by_cases hlt : k < n
      · have d0 : decide ((k : Int) < (n : Int)) = true := decide_eq_true (by omega)
        have hkl : k < l.length := by have := HN.out; omega
        obtain ⟨b, off, rfl, hb, hc⟩ := HR.out (by omega)
        obtain ⟨pA, pc, hs, -, hc0, hc1⟩ := hc k hkl
        rw [← HB.out.cell (p := ⟨b, off + k * 2, none⟩) hb] at hc0
        obtain ⟨ps, hps⟩ : ∃ x, x = (l.getD k nd0).preds := ⟨_, rfl⟩
        obtain ⟨x, hx⟩ : ∃ x, x = (l.getD k nd0).id := ⟨_, rfl⟩
        rw [← hps] at hs hc1
        rw [← hx] at hc0
        obtain ⟨t, ht⟩ : ∃ t, t = text x := ⟨_, rfl⟩
        obtain ⟨xl, hxl⟩ : ∃ q, q = x.length := ⟨_, rfl⟩
        obtain ⟨pl, hpl⟩ : ∃ q, q = ps.length := ⟨_, rfl⟩
        have hts : t.size = xl := by rw [ht, text_size, hxl]
        rw [← ht] at hc0
        rw [← hpl] at hc1
        have HC1 : Hid (∀ W, Below w.heap.size w W → W.cell? ⟨b, off + k * 2 + 1, none⟩ = some (.slice pA pl pc)) := fun W hW => (hW.cell (p := ⟨b, off + k * 2 + 1, none⟩) hb).trans hc1
        have hc1 := HC1.out _ HB.out
        have HS := Lib.hid hs
        have HPl := Lib.hid hpl
        have HXl := Lib.hid hxl
        have HKs : Hid ((l.getD k nd0).id = x ∧ (l.getD k nd0).preds = ps) := ⟨hx.symm, hps.symm⟩
        have u0 : (0 : Int) ≤ (k : Int) := by omega
        have u1 : (k : Int) < (n : Int) := by omega
        clear hps hx ht hxl hpl hs hc hb hkl
        by_cases h1 : xl ≤ 100
        · have e2 : decide ((xl : Int) > 100) = false := decide_eq_false (by omega)
          have e3 : decide ((100 : Int) < (xl : Int)) = false := decide_eq_false (by omega)
          by_cases h2 : pl ≤ 20
          · have e4 : decide ((pl : Int) > 20) = false := decide_eq_false (by omega)
            have e5 : decide ((20 : Int) < (pl : Int)) = false := decide_eq_false (by omega)
            obtain ⟨wo, hwo⟩ : ∃ wo, wo = wr := ⟨_, rfl⟩
            rw [← hwo] at HB hc0 hc1 ⊢
            clear hwo
            go_wp2
            go_loopw [4] (fun v wr => ∃ j : Nat, j ≤ pl ∧ v = .int .i64 (j : Int) ∧ Hid (∀ i, i < j → (ps.getD i []).length ≤ 100) ∧ Hid (Below w.heap.size w wr)) (fun v _ => pl - (intOf v).toNat)
            case atStart => exact ⟨0, Nat.zero_le _, rfl, fun i hi => by omega, HB.out⟩
            case round =>
              obtain ⟨j, hj, rfl, HF2, HBi⟩ := hrel
              have hc1 := HC1.out _ HBi.out
              by_cases hlt2 : j < pl
              · have d1 : decide ((j : Int) < (pl : Int)) = true := decide_eq_true (by omega)
                obtain ⟨pb, po, rfl, hpb, hpc⟩ := HS.out.at_ (by have := HPl.out; omega)
                have hpj := hpc j (by have := HPl.out; omega)
                rw [← HBi.out.cell (p := ⟨pb, po + j, none⟩) hpb] at hpj
                obtain ⟨y, hy⟩ : ∃ y, y = ps.getD j [] := ⟨_, rfl⟩
                obtain ⟨yl, hyl⟩ : ∃ q, q = y.length := ⟨_, rfl⟩
                rw [← hy] at hpj
                obtain ⟨s, hs⟩ : ∃ s, s = text y := ⟨_, rfl⟩
                have hss : s.size = yl := by rw [hs, text_size, hyl]
                rw [← hs] at hpj
                have HY : Hid ((ps.getD j []).length = yl) := by show _ = _; rw [← hy, hyl]
                have v0 : (0 : Int) ≤ (j : Int) := by omega
                have v1 : (j : Int) < (pl : Int) := by omega
                clear hy hyl hs hpc hpb
                by_cases h3 : yl ≤ 100
                · have e6 : decide ((yl : Int) > 100) = false := decide_eq_false (by omega)
                  have e7 : decide ((100 : Int) < (yl : Int)) = false := decide_eq_false (by omega)
                  go_wp2
                  go_roundw
                  case rel => exact ⟨j + 1, by omega, by go_num, fun i hi => (by
                    rcases Nat.lt_or_ge i j with h4 | h4
                    · exact HF2.out i h4
                    · rw [show i = j by omega, HY.out]; exact h3), HBi.out⟩
                  case measure => simp [intOf]; omega
                · have e6 : decide ((yl : Int) > 100) = true := decide_eq_true (by omega)
                  have e7 : decide ((100 : Int) < (yl : Int)) = true := decide_eq_true (by omega)
                  go_wp2
                  go_ret
                  exact ⟨false, rfl, (fun h => by cases h), HBi.out⟩
              · have d1 : decide ((j : Int) < (pl : Int)) = false := decide_eq_false (by omega)
                go_wp2
                go_roundw
                case rel => exact ⟨k + 1, by omega, by go_num, fun i hi => (by
                  rcases Nat.lt_or_ge i k with h4 | h4
                  · exact HF.out i h4
                  · rw [show i = k by omega, HKs.out.1, HKs.out.2]
                    exact ⟨by rw [← HXl.out]; exact h1, by rw [← HPl.out]; exact h2, fun q hq => HF2.out q (by have := HPl.out; omega)⟩), HBi.out⟩
                case measure => simp [intOf]; omega
          · have e4 : decide ((pl : Int) > 20) = true := decide_eq_true (by omega)
            have e5 : decide ((20 : Int) < (pl : Int)) = true := decide_eq_true (by omega)
            go_wp2
            go_ret
            exact ⟨false, rfl, (fun h => by cases h), HB.out⟩
        · have e2 : decide ((xl : Int) > 100) = true := decide_eq_true (by omega)
          have e3 : decide ((100 : Int) < (xl : Int)) = true := decide_eq_true (by omega)
          go_wp2
          go_ret
          exact ⟨false, rfl, (fun h => by cases h), HB.out⟩
      · have d0 : decide ((k : Int) < (n : Int)) = false := decide_eq_false (by omega)
        go_wp2
        go_ret
        exact ⟨true, rfl, fun _ => ⟨by have := HN.out; omega, fun i hi => HF.out i (by have := HN.out; omega)⟩, HB.out⟩
  · have e0 : decide ((n : Int) > 30) = true := decide_eq_true (by omega)
    have e1 : decide ((30 : Int) < (n : Int)) = true := decide_eq_true (by omega)
    go_enter Try.func9, Try.ntmps9
    go_wp2
    go_ret
    exact ⟨false, rfl, (fun h => by cases h), HB0.out⟩
end
end Go.Proofs.Ytbeihiokjhfepaa
