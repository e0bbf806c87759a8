/- Lemmas under the proofs of this place: CrcMore, Fix, Skip, Chunk, CrcRMore, RUnfix. No statement is proved here. -/
import Derived.Test.YtghenhacndaelaaGreatBu06
import Derived.Test.YtghenhacndaelaaGreatBu05
import Derived.Test.YtghenhacndaelaaGreatBu03
import Derived.Lib.Hide
import Derived.Deep.QuietTactic
import Derived.BigQuiet
set_option linter.unusedSimpArgs false
set_option linter.unusedVariables false
set_option maxRecDepth 100000
set_option maxHeartbeats 16000000
namespace Go.Proofs.YtghenhacndaelaaGreat
section
open Go.RowKit
theorem more_any (s : Nat) (L : List UInt8) (A : Option Addr) (c B : Nat) (w : World) (hs : s < 4294967296) (hr : RB w B A L) (hl : L.length ≤ 9223372036854775806) :
    Calls Tryz.prog 114 #[.int .u32 (s : Int), .slice A L.length c] w fun e w' => e = .returned (.int .u32 (moreL s L : Int)) ∧ w = w' := by
  have hx0 : s ^^^ 4294967295 < 4294967296 := Nat.xor_lt_two_pow (n := 32) hs (by decide)
  obtain ⟨z, hz⟩ : ∃ z : Nat, z = s ^^^ 4294967295 := ⟨_, rfl⟩
  have HN : Hid (bits .xor .u32 IntKind.u32.max (s : Int) = (z : Int)) := by show _ = _; rw [hz]; exact u32_not s hs
  have HM : Hid (moreL s L = raw z L ^^^ 4294967295) := by show _ = _; rw [hz]; rfl
  rw [← hz] at hx0
  clear hz hs
  go_enter Tryz.func114, Tryz.ntmps114
  go_wp2
  go_loop [5, 12] (fun r i => ∃ k : Nat, k ≤ L.length ∧ i = .int .i64 (k : Int) ∧ r = .int .u32 (raw z (L.take k) : Int)) (fun _ i => L.length - (intOf i).toNat)
  case atStart => exact ⟨0, by omega, rfl, congrArg (Value.int .u32) HN.out⟩
  case round =>
    obtain ⟨k, hk, rfl, rfl⟩ := hrel
    obtain ⟨x, hx⟩ : ∃ x : Nat, x = raw z (L.take k) := ⟨_, rfl⟩
    have hxl : x < 4294967296 := by rw [hx]; exact raw_lt _ _ hx0
    rw [← hx]
    by_cases hlt : k < L.length
    · obtain ⟨b, off, rfl, hb, hc⟩ := RB.at_ hr (by omega)
      have hck := hc k hlt
      have HR : Hid (raw z (L.take (k + 1)) = stps 8 (x ^^^ L[k].toNat)) := by show _ = _; rw [hx]; exact raw_take z L k hlt
      have HY : Hid (bits .xor .u32 (x : Int) ((L[k].toNat : Int) % 4294967296) = ((x ^^^ L[k].toNat : Nat) : Int)) := u32_byte x L[k] hxl
      have hyl : x ^^^ L[k].toNat < 4294967296 := Nat.xor_lt_two_pow (n := 32) hxl (byte_lt32 _)
      clear hc hx hr
      go_wp2
      go_loop [5, 20] (fun r i => ∃ j : Nat, j ≤ 8 ∧ i = .int .i64 (j : Int) ∧ r = .int .u32 (stps j (x ^^^ L[k].toNat) : Int)) (fun _ i => 8 - (intOf i).toNat)
      case atStart => exact ⟨0, by omega, rfl, congrArg (Value.int .u32) HY.out⟩
      case round =>
        obtain ⟨j, hj, rfl, rfl⟩ := hrel
        by_cases hlt2 : j < 8
        · have HS := Lib.hid (u32_step (stps j (x ^^^ L[k].toNat)) (stps_lt j _ hyl))
          have HT := Lib.hid (stps_succ j (x ^^^ L[k].toNat))
          go_wp2
          go_round
          case rel => exact ⟨j + 1, by omega, by go_num, by rw [HT.out]; exact congrArg (Value.int .u32) HS.out⟩
          case measure => simp [intOf]; omega
        · obtain rfl : j = 8 := by omega
          go_wp2
          go_round
          case rel => exact ⟨k + 1, by omega, by go_num, by rw [HR.out]⟩
          case measure => simp [intOf]; omega
    · have HE : Hid (bits .xor .u32 IntKind.u32.max (x : Int) = (moreL s L : Int)) := by
        show _ = _
        rw [u32_not x hxl, HM.out, hx, List.take_of_length_le (by omega)]
      clear hx
      go_wp2
      go_ret
      exact ⟨congrArg (fun v => Ending.returned (Value.int .u32 v)) HE.out, rfl⟩
theorem sum_any (L : List UInt8) (A : Option Addr) (c B : Nat) (w : World) (hr : RB w B A L) (hl : L.length ≤ 9223372036854775806) :
    Calls Tryz.prog 103 #[.slice A L.length c] w fun e w' => e = .returned (.int .u32 (sumL L : Int)) ∧ w = w' := by
  go_enter Tryz.func103, Tryz.ntmps103
  go_wp2_with (go_at_call 114; refine (more_any 0 L A c B _ (by decide) hr hl).mono ?_; rintro e w' ⟨rfl, rfl⟩)
  go_ret
  exact ⟨rfl, rfl⟩
end
section
open Go.RowKit
theorem shr_test (n k : Nat) : (((n : Int) / 2 ^ (8 * k)) != 0) = !decide (n < 256 ^ k) := by
  have hc : ((n : Int) / 2 ^ (8 * k)) = ((n / 256 ^ k : Nat) : Int) := by rw [pow_256]; simp
  rw [hc]
  by_cases h : n < 256 ^ k
  · have : n / 256 ^ k = 0 := Nat.div_eq_of_lt h
    simp [h, this]
  · have hp : 0 < 256 ^ k := Nat.pow_pos (by omega)
    have : n / 256 ^ k ≠ 0 := by
      have := Nat.div_pos (Nat.le_of_not_lt h) hp; omega
    simp only [h, decide_false, Bool.not_false]
    simp only [bne_iff_ne, ne_eq]
    omega
theorem fix_byte (n j : Nat) : IntKind.u8.wrap ((n : Int) / 2 ^ (8 * j)) = ((UInt8.ofNat (n / 256 ^ j % 256)).toNat : Int) := by
  have hc : ((n : Int) / 2 ^ (8 * j)) = ((n / 256 ^ j : Nat) : Int) := by rw [pow_256]; simp
  rw [hc, ofNat_toNat _ (by omega)]
  simp [IntKind.wrap, IntKind.bits, IntKind.signed]
theorem fix_set (L : List UInt8) (j : Nat) (h : j < L.length) (z : Value) : (cells (L.take j) ++ List.replicate (L.length - j) z).set j (.int .u8 (L[j].toNat : Int)) = cells (L.take (j + 1)) ++ List.replicate (L.length - (j + 1)) z := by
  have e : L.length - j = (L.length - (j + 1)) + 1 := by omega
  have hl : (cells (L.take j)).length = j := by rw [cells_length, List.length_take]; omega
  rw [List.set_append, if_neg (by omega), hl, Nat.sub_self, e, List.replicate_succ, List.set_cons_zero, List.take_succ_eq_append_getElem h, cells_append]
  simp [cells]
theorem fix_yes (n k : Nat) (w : World) (h : n ≤ 2147483647) (hk1 : 1 ≤ k) (hk4 : k ≤ 4) (hn : n < 256 ^ k) : Calls Tryz.prog 92 #[.int .i64 (n : Int), .int .i64 (k : Int)] w (GivesBytes (fixL k n) w) := by
  obtain ⟨i0, hi0, hz0, hz1, hz2⟩ := info_parts Tryz.info5
  have hby : i0.bytes = 1 := hz2
  have hl : (fixL k n).length = k := fixL_length k n
  have hc1 : decide ((k : Int) < 1) = false := by simp; omega
  have hc4 : decide (4 < (k : Int)) = false := by simp; omega
  have ht : (((n : Int) / 2 ^ (8 * k)) != 0) = false := by rw [shr_test]; simp [hn]
  have HL := Lib.hid hl
  clear hl hn
  go_enter Tryz.func92, Tryz.ntmps92
  go_wp2_with (first
    | (go_at_call 110; refine (isNumber_yes _ _ (by omega) (by omega)).mono ?_; rintro e w' ⟨rfl, rfl⟩)
    | (at_make; refine wpList_make_full _ rfl _ _ 39 rfl w.heap.size 5 i0 _ 1 Tryz.underlying39 hi0 hz0 hz1 .i64 .i64 _ _ k rfl rfl rfl rfl (by rw [hby]; omega) (by unfold maxLen; omega) (Nat.le_refl _) ?_; intro w1 hown hgrow))
  simp only [Nat.mul_one, show (Value.int IntKind.u8 0).cells = #[Value.int IntKind.u8 0] from rfl, toList_madeCells_one] at hown
  have hb1 : Below w.heap.size w w1 := (Below.refl _ _).grown hgrow (Nat.le_refl _) (by simp)
  have hsz : w.heap.size < w1.heap.size := (hown.lt w.heap.size rfl).2
  have HI : Hid (List.replicate k (Value.int .u8 0) = cells ((fixL k n).take 0) ++ List.replicate ((fixL k n).length - 0) (Value.int .u8 0)) := by show _ = _; rw [HL.out]; rfl
  go_loopw [31] (fun i wr => ∃ j : Nat, j ≤ k ∧ i = .int .i64 (j : Int) ∧ wr.ownsRow w.heap.size 5 1 (.slice (some ⟨w.heap.size, 0, none⟩) k k) k (cells ((fixL k n).take j) ++ List.replicate ((fixL k n).length - j) (Value.int .u8 0)) ∧ Below w.heap.size w wr) (fun i _ => k - (intOf i).toNat)
  case atStart => exact ⟨0, by omega, rfl, by rw [← HI.out]; exact hown, hb1⟩
  case round =>
    obtain ⟨j, hj, rfl, hown2, hb2⟩ := hrel
    clear hown hgrow hb1 hsz
    by_cases hlt : j < k
    · have hjl : j < (fixL k n).length := by rw [HL.out]; exact hlt
      have hcell : wr.cell? ⟨w.heap.size, j, none⟩ = some (.int .u8 0) := by
        rw [hown2.cellAt j (by omega), List.getElem?_append_right (by rw [cells_length, List.length_take]; omega), cells_length, List.length_take, Nat.min_eq_left (by omega), Nat.sub_self, List.getElem?_replicate, if_pos (by omega)]
      have hfr : wr.frozen? ⟨w.heap.size, j, none⟩ = false := hown2.frozenAt j
      obtain ⟨b, hb⟩ : ∃ b : UInt8, b = (fixL k n)[j] := ⟨_, rfl⟩
      have hbb : IntKind.u8.wrap ((n : Int) / 2 ^ (8 * j)) = (b.toNat : Int) := by
        rw [fix_byte]
        have e := fixL_get k n j hlt
        rw [List.getElem?_eq_getElem hjl, Option.some.injEq] at e
        rw [hb, e]
      have hst := (hown2.stored j (.int .u8 (b.toNat : Int))).1
      rw [hb, fix_set _ _ hjl, ← hb] at hst
      have hb3 : Below w.heap.size w (wr.setCell ⟨w.heap.size, j, none⟩ (.int .u8 (b.toNat : Int))) := hb2.setCell (Nat.le_refl _) _
      clear hb hown2 hjl
      go_wp2
      go_roundw
      case rel => exact ⟨j + 1, by omega, by go_num, hst, hb3⟩
      case measure => simp [intOf]; omega
    · obtain rfl : k = j := by omega
      have e : cells ((fixL k n).take k) ++ List.replicate ((fixL k n).length - k) (Value.int .u8 0) = cells (fixL k n) := by
        rw [List.take_of_length_le (by rw [HL.out]; omega), HL.out, Nat.sub_self]; simp
      rw [e] at hown2
      have HW : Hid (wr.ownsRow w.heap.size 5 1 (.slice (some ⟨w.heap.size, 0, none⟩) k k) k (cells (fixL k n))) := hown2
      clear hown2 e
      go_wp2
      go_ret2
      refine ⟨some ⟨w.heap.size, 0, none⟩, k, by rw [HL.out]; exact rfl, ?_, hb2⟩
      unfold Own
      rw [HL.out]
      exact HW.out
end
section
open Go.RowKit
theorem any_skip {P : Program} {ops : Array Oper} {Q : Exit → Act → World → Prop} {md : Region.Mode} {S : World → Prop} {T : Nat → Bool} {i fuel : Nat} {oi : Oper} {listed listed' : Array Bool} {a a' : Act} {w : World} (hi : ops[i]? = some oi) (hs : Region.noSelect ops = true) (hf : Region.free md ops listed i = true) (hr : (Region.ready md ops listed).contains i = true)
    (hT : T i = false) (hwt : waits_ md ops T i = true) (hw : Region.wanted oi (yielded ops a.tmps) = false) (hS : S w) (ha : a.put oi.dst undef = a') (hl : listed.setIfInBounds i true = listed') (hQ : ∀ c a w, Q (.panic c) (a.put oi.dst undef) w → Q (.panic c) a w)
    (h : wpAnyT P md ops Q S T fuel listed' a' w) : wpAnyT P md ops Q S T (fuel + 1) listed a w := by
  subst ha hl
  exact wpAnyT_first hi hwt hT (Region.noSelect_spec hs) hQ fuel listed a w (Region.free_spec hi hf) (by simpa using hr) (.inr ⟨hw, rfl⟩) hS h
theorem skip_d {P : Program} {ops : Array Oper} {Q : Exit → Act → World → Prop} {md : Region.Mode} {S : World → Prop} {T : Nat → Bool} {i fuel : Nat} {oi : Oper} {listed : Array Bool} {a : Act} {w : World} (d : Nat) (hi : ops[i]? = some oi) (hd : oi.dst = some d) (hs : Region.noSelect ops = true) (hf : Region.free md ops listed i = true) (hr : (Region.ready md ops listed).contains i = true)
    (hT : T i = false) (hwt : waits_ md ops T i = true) (hw : Region.wanted oi (yielded ops a.tmps) = false) (hS : S w) (hQ : ∀ c a w, Q (.panic c) (a.put oi.dst undef) w → Q (.panic c) a w)
    (h : wpAnyT P md ops Q S T fuel (listed.setIfInBounds i true) (a.put (some d) undef) w) : wpAnyT P md ops Q S T (fuel + 1) listed a w :=
  any_skip hi hs hf hr hT hwt hw hS (by rw [hd]) rfl hQ h
theorem take_d {P : Program} {ops : Array Oper} {Q : Exit → Act → World → Prop} {md : Region.Mode} {S : World → Prop} {T : Nat → Bool} {i fuel : Nat} {oi : Oper} {listed : Array Bool} {a : Act} {w : World} (v : Value) (d : Nat) (hi : ops[i]? = some oi) (hd : oi.dst = some d) (hs : Region.noSelect ops = true) (hf : Region.free md ops listed i = true) (hr : (Region.ready md ops listed).contains i = true)
    (hT : T i = false) (hwt : waits_ md ops T i = true) (hw : Region.wanted oi (yielded ops a.tmps) = true) (hy : ∀ w, S w → (execOp a.eval oi).run P w = .ok (.value v) w) (hS : S w) (hQ : ∀ c a w, Q (.panic c) (a.put oi.dst v) w → Q (.panic c) a w)
    (h : wpAnyT P md ops Q S T fuel (listed.setIfInBounds i true) (a.put (some d) v) w) : wpAnyT P md ops Q S T (fuel + 1) listed a w :=
  any_take v hi hs hf hr hT hwt hw hy hS (by rw [hd]) rfl hQ h
end
section
open Go.RowKit Go.Shelf
attribute [local go_sem] Oper.semAt_some
theorem sl_three (a off n c s h : Nat) (i j : Int) (hi : i = (s : Int)) (hj : j = (h : Int)) (h1 : s < h) (h2 : h ≤ c) (W : World) :
    (Instr.sliceAt 39 (.slice (some ⟨a, off, none⟩) n c) (some (.int .i64 i)) (some (.int .i64 j)) (some (.int .i64 j))).run Tryz.prog W = .ok (.slice (some ⟨a, off + s, none⟩) (h - s) (h - s)) W := by
  subst hi hj
  have hu : Tryz.prog.underlying 39 = some (.slice (Tryz.prog.elem 39)) := by kernel_rfl
  have he : Tryz.prog.elem 39 = 5 := by kernel_rfl
  have hsz : (sizeOf 5).run Tryz.prog W = .ok 1 W := by kernel_rfl
  have e : (h : Int).toNat = h := by omega
  have e2 : (s : Int).toNat = s := by omega
  rw [run_sliceAt_slice _ _ _ _ _ _ hu, run_slice_lhm _ _ _ _ _ hu .i64 .i64 .i64 (s : Int) (h : Int) (h : Int) (by omega) (by omega) (by omega) (by omega), he, hsz]
  simp only [Result.andThen_ok, e, e2, sliced]
  rw [if_neg (show ¬ h = s by omega)]
  simp only [Option.map_some, Nat.mul_one, add_at]
def KeepsTwo (B C : Nat) (W W' : World) : Prop := W'.cell? ⟨B, 0, none⟩ = W.cell? ⟨B, 0, none⟩ ∧ W'.cell? ⟨C, 0, none⟩ = W.cell? ⟨C, 0, none⟩
theorem KeepsTwo.trans {B C : Nat} {U V W : World} (h : KeepsTwo B C U V) (k : KeepsTwo B C V W) : KeepsTwo B C U W := ⟨k.1.trans h.1, k.2.trans h.2⟩
theorem keepsTwo_b {B C : Nat} {w : World} (hB : B < w.heap.size) (hC : C < w.heap.size) (W : World) (l : Nat) (o o' : Obj) (hl : w.heap.size ≤ l) (h : W.heap[l]? = some o) (h1 : o.isCells = false) (h2 : o.isWalk = false) : KeepsTwo B C W (W.putObj l o') := ⟨keepsAt_b hB W l o o' hl h h1 h2, keepsAt_b hC W l o o' hl h h1 h2⟩
def chunkN (n : Nat) : Nat := (n + 255) / 256
def chunkL (n i : Nat) : Nat := if n < i * 256 + 256 then n - i * 256 else 256
def chunkV (b off n i : Nat) : Value := .slice (some ⟨b, off + i * 256, none⟩) (chunkL n i) (chunkL n i)
theorem chunk1_in (m : Nat) (hm : 1 ≤ m) (l Bs Bn b off n N cap : Nat) (hN : N = chunkN n) (hn : n ≤ 1000000) (hcap : n ≤ cap ∧ cap ≤ 9223372036854775807) (J Jx : List (Upto N) → World → Prop) (W : World) (hJ : AbidesFrom W.heap.size J)
    (hY : ∀ pre x W, J pre W → pre.length < N → YieldAt Fence.wide (m - 1) Tryz.prog l #[chunkV b off n x.1] W fun e W' =>
      (e = .returned (.bool true) ∧ J (pre ++ [x]) W' ∧ KeepsTwo Bs Bn W W') ∨ (e = .returned (.bool false) ∧ Jx (pre ++ [x]) W'))
    (hc : W.cell? ⟨Bs, 0, none⟩ = some (.slice (some ⟨b, off, none⟩) n cap)) (hc2 : W.cell? ⟨Bn, 0, none⟩ = some (.int .i64 256)) (h0 : J [] W) :
    CallsIn Fence.wide m Tryz.prog 94 #[.func (.yield l) #[] #[], .pointer (some ⟨Bs, 0, none⟩), .pointer (some ⟨Bn, 0, none⟩)] W fun e W' => (∃ v, e = .returned v) ∧
      ((∃ ys : List (Upto N), ys.map (·.1) = List.range N ∧ J ys W') ∨ (∃ pre : List (Upto N), pre.map (·.1) = List.range pre.length ∧ Jx pre W')) := by
  have HNn : Hid (N = (n + 255) / 256) := hN
  have hN1 : N ≤ 5000 := by have := HNn.out; omega
  have nf := fun w' => Tryz.notFalse w'
  have nt := fun w' => Tryz.notTrue w'
  have HC := Lib.hid hc
  have HC2 := Lib.hid hc2
  have HY := Lib.hid hY
  have HJb := Lib.hid hJ
  have H0 := Lib.hid h0
  clear hN hY h0 hc hc2 hJ
  refine callsIn_of_wp Tryz.func94 rfl trivial ?_ rfl
  simp only [Tryz.ntmps94, List.size_toArray, List.length_cons, List.length_nil, Nat.reduceAdd, Nat.reduceSub, Array.replicate_succ, Array.replicate_zero, List.push_toArray, List.append_toArray, List.nil_append, List.cons_append]
  gi_wp2
  gi_loopw [4] (fun i wr => ∃ k i0 : Nat, k ≤ N ∧ i0 = k * 256 ∧ i = .int .i64 (i0 : Int) ∧ ∃ pre : List (Upto N), Hid (pre.map (·.1) = List.range k ∧ J pre wr) ∧ Hid (KeepsTwo Bs Bn W wr))
    (fun i _ => N * 256 - (intOf i).toNat)
  case atStart => exact ⟨0, 0, Nat.zero_le _, rfl, rfl, [], ⟨rfl, H0.out⟩, rfl, rfl⟩
  case round =>
    obtain ⟨k, i0, hk, hi0, rfl, pre, HJ, HB⟩ := hrel
    have Hi0 := Lib.hid hi0
    have hpl : pre.length = k := by have := congrArg List.length HJ.out.1; simpa using this
    have hcx := Eq.trans HB.out.1 HC.out
    have hcy := Eq.trans HB.out.2 HC2.out
    by_cases hlt : k < N
    · have hkn : i0 < n := by have := HNn.out; omega
      have d0 : decide ((i0 : Int) < (n : Int)) = true := decide_eq_true (by omega)
      have d1 : decide (i0 < n) = true := decide_eq_true hkn
      obtain ⟨q, hq⟩ : ∃ q, q = chunkL n k := ⟨_, rfl⟩
      obtain ⟨r, hr⟩ : ∃ r, r = n - i0 := ⟨_, rfl⟩
      have hqr : q = min 256 r := by rw [hq, hr, hi0]; unfold chunkL; split <;> omega
      have hq1 : 1 ≤ q ∧ q ≤ 256 := by omega
      have HCv : Hid (chunkV b off n k = .slice (some ⟨b, off + i0, none⟩) q q) := by show _ = _; unfold chunkV; rw [← hq, ← hi0]
      have Hpl : Hid (pre.length = k) := hpl
      have ks := fun W => sl_from b off n cap i0 (i0 : Int) rfl (by omega) (by omega) W
      rw [← hr] at ks
      obtain ⟨e0, he0⟩ : ∃ e, e = i0 + q := ⟨_, rfl⟩
      have em : min (256 : Int) (r : Int) = (q : Int) := by omega
      have eif : ∀ (inst : Decidable ((r : Int) < 256)), @ite Int ((r : Int) < 256) inst (r : Int) 256 = (q : Int) := fun inst => by split <;> omega
      have ea : (i0 : Int) + (q : Int) = (e0 : Int) := by omega
      have ew : IntKind.i64.wrap (e0 : Int) = (e0 : Int) := IntWalk.i64_in _ (by omega)
      have k3 := fun W => sl_three b off n cap i0 e0 (i0 : Int) (e0 : Int) rfl rfl (by omega) (by omega) W
      rw [show e0 - i0 = q by omega] at k3
      have ew2 : IntKind.i64.wrap ((i0 : Int) + 256) = ((i0 + 256 : Nat) : Int) := by rw [IntWalk.i64_in _ (by omega)]; omega
      clear hpl hn hq hr hqr hi0 hkn he0
      gi_wp2
      refine wpIn_wide.2 ?_
      go_quiet (fail)
      have hJq : J pre (wr.drewN nq) := HJb.out pre wr (wr.drewN nq) none HJ.out.2 ⟨rfl, rfl, rfl, Nat.le_refl _, fun _ _ _ => rfl⟩ (fun r e => by cases e)
      have hBq : KeepsTwo Bs Bn W (wr.drewN nq) := HB.out
      have HBq := Lib.hid hBq
      have hcx := Eq.trans hBq.1 HC.out
      have hcy := Eq.trans hBq.2 HC2.out
      generalize wr.drewN nq = wq at hJq HBq hcx hcy ⊢
      clear hBq
      obtain ⟨fn, tmps, assign, body, hy, hR⟩ := HY.out pre ⟨k, hlt⟩ wq hJq (by rw [Hpl.out]; exact hlt)
      dsimp only at hy
      rw [HCv.out] at hy
      gi_wp2
      refine hR.mono ?_
      rintro e W3 (⟨rfl, hJ3, hk3⟩ | ⟨rfl, hJx3⟩)
      · have hb3 := HBq.out.trans hk3
        have HB3 := Lib.hid hb3
        have hcz := Eq.trans hb3.2 HC2.out
        clear hb3 hcx hcy
        gi_wp2
        go_roundw
        case rel => exact ⟨k + 1, i0 + 256, by omega, by have := Hi0.out; omega, by go_num, pre ++ [⟨k, hlt⟩], ⟨by rw [List.map_append, HJ.out.1, List.range_succ]; rfl, hJ3⟩, HB3.out⟩
        case measure => simp [intOf]; have := HNn.out; have := Hi0.out; omega
      · gi_wp2
        refine bodyPost_ret (results_none rfl _ _ _) rfl ?_
        have h9 : ∀ x : Upto N, x.1 = k → (pre ++ [x]).map (fun y : Upto N => y.1) = List.range (pre ++ [x]).length := fun x hx => by rw [List.length_append, Hpl.out, List.map_append, HJ.out.1]; simp [hx, List.range_succ]
        exact ⟨⟨_, rfl⟩, .inr ⟨_, h9 ⟨k, hlt⟩ rfl, hJx3⟩⟩
    · have hkn : ¬ i0 < n := by have := HNn.out; omega
      have d0 : decide ((i0 : Int) < (n : Int)) = false := decide_eq_false (by omega)
      have d1 : decide (i0 < n) = false := decide_eq_false hkn
      obtain rfl : k = N := by omega
      gi_wp2
      go_end0
      exact ⟨⟨_, rfl⟩, .inl ⟨pre, HJ.out.1, HJ.out.2⟩⟩
theorem chunk_any (A : Option Addr) (n c : Nat) (w : World) :
    Calls Tryz.prog 72 #[.slice A n c, .int .i64 256] w fun e w' => e = .returned (.func (.func 94) #[] #[.pointer (some ⟨w.heap.size, 0, none⟩), .pointer (some ⟨w.heap.size + 1, 0, none⟩)]) ∧ w' = (w.alloc (.cells #[.slice A n c] 39)).alloc (.cells #[.int .i64 256] 3) := by
  have hmf : ∀ (fn : Fn) (first cap : Array Value) (w : World), (Instr.makeFunc fn first cap).run Tryz.prog w = .ok (.func fn first cap) w := fun _ _ _ _ => rfl
  go_enter Tryz.func72, Tryz.ntmps72
  go_wp2
  go_ret
  exact ⟨rfl, rfl⟩
theorem chunk_stops (m : Nat) (hm : 1 ≤ m) (Bs Bn b off n N cap : Nat) (hN : N = chunkN n) (hn : n ≤ 1000000) (hcap : n ≤ cap ∧ cap ≤ 9223372036854775807) (w : World) (hBs : Bs < w.heap.size) (hBn : Bn < w.heap.size) (hc : w.cell? ⟨Bs, 0, none⟩ = some (.slice (some ⟨b, off, none⟩) n cap)) (hc2 : w.cell? ⟨Bn, 0, none⟩ = some (.int .i64 256)) :
    SeqStopsK Fence.wide m Tryz.prog 94 #[.pointer (some ⟨Bs, 0, none⟩), .pointer (some ⟨Bn, 0, none⟩)] (fun x : Upto N => #[chunkV b off n x.1]) (KeepsTwo Bs Bn) (fun ys => ys.map (·.1) = List.range N) (fun pre => pre.map (·.1) = List.range pre.length) N w := fun l J Jx W hW hJ _ hY h0 =>
  chunk1_in m hm l Bs Bn b off n N cap hN hn hcap J Jx W hJ hY ((hW.cell (p := ⟨Bs, 0, none⟩) hBs).trans hc) ((hW.cell (p := ⟨Bn, 0, none⟩) hBn).trans hc2) h0
end
section
open Go.RowKit
theorem refMore_any (s : Nat) (L : List UInt8) (A : Option Addr) (c B : Nat) (w : World) (hs : s < 4294967296) (hr : RB w B A L) (hl : L.length ≤ 9223372036854775806) :
    Calls Tryz.prog 80 #[.int .u32 (s : Int), .slice A L.length c] w fun e w' => e = .returned (.int .u32 (moreL s L : Int)) ∧ w = w' := by
  have hx0 : s ^^^ 4294967295 < 4294967296 := Nat.xor_lt_two_pow (n := 32) hs (by decide)
  obtain ⟨z, hz⟩ : ∃ z : Nat, z = s ^^^ 4294967295 := ⟨_, rfl⟩
  have HN : Hid (bits .xor .u32 (s : Int) 4294967295 = (z : Int)) := by show _ = _; rw [hz]; exact u32_notr s hs
  have HM : Hid (moreL s L = raw z L ^^^ 4294967295) := by show _ = _; rw [hz]; rfl
  rw [← hz] at hx0
  clear hz hs
  go_enter Tryz.func80, Tryz.ntmps80
  go_wp2
  go_loop [5, 6] (fun r i => ∃ k : Nat, k ≤ L.length ∧ i = .int .i64 (k : Int) ∧ r = .int .u32 (raw z (L.take k) : Int)) (fun _ i => L.length - (intOf i).toNat)
  case atStart => exact ⟨0, by omega, rfl, congrArg (Value.int .u32) HN.out⟩
  case round =>
    obtain ⟨k, hk, rfl, rfl⟩ := hrel
    obtain ⟨x, hx⟩ : ∃ x : Nat, x = raw z (L.take k) := ⟨_, rfl⟩
    have hxl : x < 4294967296 := by rw [hx]; exact raw_lt _ _ hx0
    rw [← hx]
    by_cases hlt : k < L.length
    · obtain ⟨b, off, rfl, hb, hc⟩ := RB.at_ hr (by omega)
      have hck := hc k hlt
      have HR : Hid (raw z (L.take (k + 1)) = stps 8 (x ^^^ L[k].toNat)) := by show _ = _; rw [hx]; exact raw_take z L k hlt
      have HY : Hid (bits .xor .u32 (x : Int) ((L[k].toNat : Int) % 4294967296) = ((x ^^^ L[k].toNat : Nat) : Int)) := u32_byte x L[k] hxl
      have hyl : x ^^^ L[k].toNat < 4294967296 := Nat.xor_lt_two_pow (n := 32) hxl (byte_lt32 _)
      clear hc hx hr
      go_wp2
      go_loop [5, 7] (fun r i => ∃ j : Nat, j ≤ 8 ∧ i = .int .i64 (j : Int) ∧ r = .int .u32 (stps j (x ^^^ L[k].toNat) : Int)) (fun _ i => 8 - (intOf i).toNat)
      case atStart => exact ⟨0, by omega, rfl, congrArg (Value.int .u32) HY.out⟩
      case round =>
        obtain ⟨j, hj, rfl, rfl⟩ := hrel
        obtain ⟨y, hy⟩ : ∃ y : Nat, y = stps j (x ^^^ L[k].toNat) := ⟨_, rfl⟩
        have hyy : y < 4294967296 := by rw [hy]; exact stps_lt j _ hyl
        have HT : Hid (stps (j + 1) (x ^^^ L[k].toNat) = stp y) := by show _ = _; rw [hy]; exact stps_succ j _
        rw [← hy]
        have HY8 : Hid (y = stps j (x ^^^ L[k].toNat)) := hy
        clear hy
        by_cases hlt2 : j < 8
        · rcases (show y % 2 = 0 ∨ y % 2 = 1 by omega) with h0 | h0
          · have hp : ((y : Int) % 2 == 1) = false := by simp; omega
            have HS : Hid ((y : Int) / 2 = ((stp y : Nat) : Int)) := by
              show _ = _
              unfold stp
              rw [if_neg (by omega)]
              omega
            clear h0
            go_wp2
            go_round
            case rel => exact ⟨j + 1, by omega, by go_num, by rw [HT.out]; exact congrArg (Value.int .u32) HS.out⟩
            case measure => simp [intOf]; omega
          · have hp : ((y : Int) % 2 == 1) = true := by simp; omega
            have HS : Hid (bits .xor .u32 ((y : Int) / 2) 2197175160 = ((stp y : Nat) : Int)) := by
              show _ = _
              unfold stp
              have e2 : ((y : Int) / 2) = ((y / 2 : Nat) : Int) := by omega
              rw [if_pos h0, e2]
              exact u32_poly _ (by omega)
            clear h0
            go_wp2
            go_round
            case rel => exact ⟨j + 1, by omega, by go_num, by rw [HT.out]; exact congrArg (Value.int .u32) HS.out⟩
            case measure => simp [intOf]; omega
        · obtain rfl : j = 8 := by omega
          go_wp2
          go_round
          case rel => exact ⟨k + 1, by omega, by go_num, by rw [HR.out, ← HY8.out]⟩
          case measure => simp [intOf]; omega
    · have HE : Hid (bits .xor .u32 (x : Int) 4294967295 = (moreL s L : Int)) := by
        show _ = _
        rw [u32_notr x hxl, HM.out, hx, List.take_of_length_le (by omega)]
      clear hx
      go_wp2
      go_ret
      exact ⟨congrArg (fun v => Ending.returned (Value.int .u32 v)) HE.out, rfl⟩
theorem refSum_any (L : List UInt8) (A : Option Addr) (c B : Nat) (w : World) (hr : RB w B A L) (hl : L.length ≤ 9223372036854775806) :
    Calls Tryz.prog 65 #[.slice A L.length c] w fun e w' => e = .returned (.int .u32 (sumL L : Int)) ∧ w = w' := by
  go_enter Tryz.func65, Tryz.ntmps65
  go_wp2_with (go_at_call 80; refine (refMore_any 0 L A c B _ (by decide) hr hl).mono ?_; rintro e w' ⟨rfl, rfl⟩)
  go_ret
  exact ⟨rfl, rfl⟩
end
section
open Go.RowKit
theorem refUnfix_any (L : List UInt8) (A : Option Addr) (c B : Nat) (w : World) (hr : RB w B A L) (hl : L.length ≤ 1048576) :
    Calls Tryz.prog 112 #[.slice A L.length c] w fun e w' => UnfixPost (unfixR L) e ∧ w = w' := by
  by_cases h1 : L.length < 1
  · have HR : Hid (unfixR L = (0, 1)) := by show _ = _; unfold unfixR; rw [if_pos (.inl h1)]
    go_enter Tryz.func112, Tryz.ntmps112
    go_wp2
    go_ret2
    exact ⟨by rw [HR.out]; exact rfl, rfl⟩
  by_cases h4 : 4 < L.length
  · have HR : Hid (unfixR L = (0, 1)) := by show _ = _; unfold unfixR; rw [if_pos (.inr h4)]
    go_enter Tryz.func112, Tryz.ntmps112
    go_wp2
    go_ret2
    exact ⟨by rw [HR.out]; exact rfl, rfl⟩
  obtain ⟨b, off, rfl, hb, hcell⟩ := hr.at_ (by omega)
  have HC : Hid (∀ (k : Nat) (hk : k < L.length), w.cell? ⟨b, off + k, none⟩ = some (Value.int .u8 (L[k].toNat : Int))) := hcell
  have HR : Hid (unfixR L = if 2147483647 < unfixL L then (0, 5) else (unfixL L, 0)) := by show _ = _; unfold unfixR; rw [if_neg (by omega)]
  clear hcell hr
  go_enter Tryz.func112, Tryz.ntmps112
  go_wp2
  go_loop [4, 5] (fun n i => ∃ (m : Int) (acc : Nat), i = .int .i64 m ∧ -1 ≤ m ∧ m < (L.length : Int) ∧ n = .int .i64 (acc : Int) ∧ acc = unfixL (L.drop (m + 1).toNat)) (fun _ i => (intOf i + 1).toNat)
  case atStart => exact ⟨(L.length : Int) - 1, 0, rfl, by omega, by omega, rfl, by rw [List.drop_eq_nil_of_le (by omega)]; rfl⟩
  case round =>
    obtain ⟨m, acc, rfl, hm1, hm2, rfl, hacc⟩ := hrel
    by_cases hm0 : 0 ≤ m
    · obtain ⟨k, rfl⟩ : ∃ k : Nat, m = (k : Int) := ⟨m.toNat, by omega⟩
      have hlt : k < L.length := by omega
      obtain ⟨x, hx⟩ : ∃ x : Nat, x = L[k].toNat := ⟨_, rfl⟩
      have hck := HC.out k hlt
      rw [← hx] at hck
      have hx256 : x < 256 := by rw [hx]; exact byte_lt _
      have e1 : ((k : Int) + 1).toNat = k + 1 := by omega
      rw [e1] at hacc
      have hb3 : acc < 16777216 := by
        rw [hacc]
        exact Nat.lt_of_lt_of_le (unfixL_lt _) (Nat.le_trans (Nat.pow_le_pow_right (by omega) (show (L.drop (k + 1)).length ≤ 3 by rw [List.length_drop]; omega)) (by decide))
      have HA : Hid (x + 256 * acc = unfixL (L.drop k)) := by show _ = _; rw [List.drop_eq_getElem_cons hlt]; simp only [unfixL]; rw [← hx, ← hacc]
      clear hx hacc e1
      go_wp2
      go_round
      case rel => exact ⟨(k : Int) - 1, x + 256 * acc, rfl, by omega, by omega, by go_num, by rw [HA.out]; congr 2; omega⟩
      case measure => simp [intOf]
    · obtain rfl : m = -1 := by omega
      have HA : Hid (acc = unfixL L) := by show _ = _; rw [hacc]; rfl
      have hlt3 : acc < 4294967296 := by
        rw [HA.out]
        exact Nat.lt_of_lt_of_le (unfixL_lt L) (Nat.le_trans (Nat.pow_le_pow_right (by omega) (show L.length ≤ 4 by omega)) (by decide))
      clear hacc
      by_cases hm : 2147483647 < acc
      · go_wp2
        go_ret2
        exact ⟨by rw [HR.out, ← HA.out, if_pos hm]; exact rfl, rfl⟩
      · go_wp2
        go_ret2
        exact ⟨by rw [HR.out, ← HA.out, if_neg hm]; exact rfl, rfl⟩
end
end Go.Proofs.YtghenhacndaelaaGreat
