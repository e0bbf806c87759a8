/- Lemmas under the proofs of this place: Chunk. No statement is proved here. -/
import Derived.Test.YtghenhacndaelaaBu07
import Derived.Test.YtghenhacndaelaaBu04
import Derived.Deep.QuietTactic
import Derived.BigQuiet
set_option linter.unusedSimpArgs false
set_option linter.unusedVariables false
set_option maxRecDepth 100000
set_option maxHeartbeats 16000000
namespace Go.Proofs.Ytghenhacndaelaa
open Go.RowKit Go.Shelf
attribute [local go_sem] Oper.semAt_some
theorem sl_three (a off n c s h : Nat) (i j : Int) (hi : i = (s : Int)) (hj : j = (h : Int)) (h1 : s < h) (h2 : h ≤ c) (W : World) :
    (Instr.sliceAt 38 (.slice (some ⟨a, off, none⟩) n c) (some (.int .i64 i)) (some (.int .i64 j)) (some (.int .i64 j))).run Try.prog W = .ok (.slice (some ⟨a, off + s, none⟩) (h - s) (h - s)) W := by
  subst hi hj
  have hu : Try.prog.underlying 38 = some (.slice (Try.prog.elem 38)) := by kernel_rfl
  have he : Try.prog.elem 38 = 5 := by kernel_rfl
  have hsz : (sizeOf 5).run Try.prog W = .ok 1 W := by kernel_rfl
  have e : (h : Int).toNat = h := by omega
  have e2 : (s : Int).toNat = s := by omega
  rw [run_sliceAt_slice _ _ _ _ _ _ hu, run_slice_lhm _ _ _ _ _ hu .i64 .i64 .i64 (s : Int) (h : Int) (h : Int) (by omega) (by omega) (by omega) (by omega), he, hsz]
  simp only [Result.andThen_ok, e, e2, sliced]
  rw [if_neg (show ¬ h = s by omega)]
  simp only [Option.map_some, Nat.mul_one, add_at]
def KeepsTwo (B C : Nat) (W W' : World) : Prop := W'.cell? ⟨B, 0, none⟩ = W.cell? ⟨B, 0, none⟩ ∧ W'.cell? ⟨C, 0, none⟩ = W.cell? ⟨C, 0, none⟩
theorem KeepsTwo.trans {B C : Nat} {U V W : World} (h : KeepsTwo B C U V) (k : KeepsTwo B C V W) : KeepsTwo B C U W := ⟨k.1.trans h.1, k.2.trans h.2⟩
theorem keepsTwo_b {B C : Nat} {w : World} (hB : B < w.heap.size) (hC : C < w.heap.size) (W : World) (l : Nat) (o o' : Obj) (hl : w.heap.size ≤ l) (h : W.heap[l]? = some o) (h1 : o.isCells = false) (h2 : o.isWalk = false) : KeepsTwo B C W (W.putObj l o') := ⟨keepsAt_b hB W l o o' hl h h1 h2, keepsAt_b hC W l o o' hl h h1 h2⟩
def chunkN (n : Nat) : Nat := (n + 255) / 256
def chunkL (n i : Nat) : Nat := if n < i * 256 + 256 then n - i * 256 else 256
def chunkV (b off n i : Nat) : Value := .slice (some ⟨b, off + i * 256, none⟩) (chunkL n i) (chunkL n i)
theorem chunk1_in (m : Nat) (hm : 1 ≤ m) (l Bs Bn b off n N cap : Nat) (hN : N = chunkN n) (hn : n ≤ 1000000) (hcap : n ≤ cap ∧ cap ≤ 9223372036854775807) (J Jx : List (Upto N) → World → Prop) (W : World) (hJ : AbidesFrom W.heap.size J)
    (hY : ∀ pre x W, J pre W → pre.length < N → YieldAt Fence.wide (m - 1) Try.prog l #[chunkV b off n x.1] W fun e W' =>
      (e = .returned (.bool true) ∧ J (pre ++ [x]) W' ∧ KeepsTwo Bs Bn W W') ∨ (e = .returned (.bool false) ∧ Jx (pre ++ [x]) W'))
    (hc : W.cell? ⟨Bs, 0, none⟩ = some (.slice (some ⟨b, off, none⟩) n cap)) (hc2 : W.cell? ⟨Bn, 0, none⟩ = some (.int .i64 256)) (h0 : J [] W) :
    CallsIn Fence.wide m Try.prog 62 #[.func (.yield l) #[] #[], .pointer (some ⟨Bs, 0, none⟩), .pointer (some ⟨Bn, 0, none⟩)] W fun e W' => (∃ v, e = .returned v) ∧
      ((∃ ys : List (Upto N), ys.map (·.1) = List.range N ∧ J ys W') ∨ (∃ pre : List (Upto N), pre.map (·.1) = List.range pre.length ∧ Jx pre W')) := by
  have HNn : Hid (N = (n + 255) / 256) := hN
  have hN1 : N ≤ 5000 := by have := HNn.out; omega
  have nf := fun w' => Try.notFalse w'
  have nt := fun w' => Try.notTrue w'
  have HC := Lib.hid hc
  have HC2 := Lib.hid hc2
  have HY := Lib.hid hY
  have HJb := Lib.hid hJ
  have H0 := Lib.hid h0
  clear hN hY h0 hc hc2 hJ
  refine callsIn_of_wp Try.func62 rfl trivial ?_ rfl
  simp only [Try.ntmps62, List.size_toArray, List.length_cons, List.length_nil, Nat.reduceAdd, Nat.reduceSub, Array.replicate_succ, Array.replicate_zero, List.push_toArray, List.append_toArray, List.nil_append, List.cons_append]
  gi_wp2
  gi_loopw [4] (fun i wr => ∃ k i0 : Nat, k ≤ N ∧ i0 = k * 256 ∧ i = .int .i64 (i0 : Int) ∧ ∃ pre : List (Upto N), Hid (pre.map (·.1) = List.range k ∧ J pre wr) ∧ Hid (KeepsTwo Bs Bn W wr))
    (fun i _ => N * 256 - (intOf i).toNat)
  case atStart => exact ⟨0, 0, Nat.zero_le _, rfl, rfl, [], ⟨rfl, H0.out⟩, rfl, rfl⟩
  case round =>
    obtain ⟨k, i0, hk, hi0, rfl, pre, HJ, HB⟩ := hrel
    have Hi0 := Lib.hid hi0
    have hpl : pre.length = k := by have := congrArg List.length HJ.out.1; simpa using this
    have hcx := Eq.trans HB.out.1 HC.out
    have hcy := Eq.trans HB.out.2 HC2.out
    by_cases hlt : k < N
    · have hkn : i0 < n := by have := HNn.out; omega
      have d0 : decide ((i0 : Int) < (n : Int)) = true := decide_eq_true (by omega)
      have d1 : decide (i0 < n) = true := decide_eq_true hkn
      obtain ⟨q, hq⟩ : ∃ q, q = chunkL n k := ⟨_, rfl⟩
      obtain ⟨r, hr⟩ : ∃ r, r = n - i0 := ⟨_, rfl⟩
      have hqr : q = min 256 r := by rw [hq, hr, hi0]; unfold chunkL; split <;> omega
      have hq1 : 1 ≤ q ∧ q ≤ 256 := by omega
      have HCv : Hid (chunkV b off n k = .slice (some ⟨b, off + i0, none⟩) q q) := by show _ = _; unfold chunkV; rw [← hq, ← hi0]
      have Hpl : Hid (pre.length = k) := hpl
      have ks := fun W => sl_from b off n cap i0 (i0 : Int) rfl (by omega) (by omega) W
      rw [← hr] at ks
      obtain ⟨e0, he0⟩ : ∃ e, e = i0 + q := ⟨_, rfl⟩
      have em : min (256 : Int) (r : Int) = (q : Int) := by omega
      have eif : ∀ (inst : Decidable ((r : Int) < 256)), @ite Int ((r : Int) < 256) inst (r : Int) 256 = (q : Int) := fun inst => by split <;> omega
      have ea : (i0 : Int) + (q : Int) = (e0 : Int) := by omega
      have ew : IntKind.i64.wrap (e0 : Int) = (e0 : Int) := IntWalk.i64_in _ (by omega)
      have k3 := fun W => sl_three b off n cap i0 e0 (i0 : Int) (e0 : Int) rfl rfl (by omega) (by omega) W
      rw [show e0 - i0 = q by omega] at k3
      have ew2 : IntKind.i64.wrap ((i0 : Int) + 256) = ((i0 + 256 : Nat) : Int) := by rw [IntWalk.i64_in _ (by omega)]; omega
      clear hpl hn hq hr hqr hi0 hkn he0
      gi_wp2
      refine wpIn_wide.2 ?_
      go_quiet (fail)
      have hJq : J pre (wr.drewN nq) := HJb.out pre wr (wr.drewN nq) none HJ.out.2 ⟨rfl, rfl, rfl, Nat.le_refl _, fun _ _ _ => rfl⟩ (fun r e => by cases e)
      have hBq : KeepsTwo Bs Bn W (wr.drewN nq) := HB.out
      have HBq := Lib.hid hBq
      have hcx := Eq.trans hBq.1 HC.out
      have hcy := Eq.trans hBq.2 HC2.out
      generalize wr.drewN nq = wq at hJq HBq hcx hcy ⊢
      clear hBq
      obtain ⟨fn, tmps, assign, body, hy, hR⟩ := HY.out pre ⟨k, hlt⟩ wq hJq (by rw [Hpl.out]; exact hlt)
      dsimp only at hy
      rw [HCv.out] at hy
      gi_wp2
      refine hR.mono ?_
      rintro e W3 (⟨rfl, hJ3, hk3⟩ | ⟨rfl, hJx3⟩)
      · have hb3 := HBq.out.trans hk3
        have HB3 := Lib.hid hb3
        have hcz := Eq.trans hb3.2 HC2.out
        clear hb3 hcx hcy
        gi_wp2
        go_roundw
        case rel => exact ⟨k + 1, i0 + 256, by omega, by have := Hi0.out; omega, by go_num, pre ++ [⟨k, hlt⟩], ⟨by rw [List.map_append, HJ.out.1, List.range_succ]; rfl, hJ3⟩, HB3.out⟩
        case measure => simp [intOf]; have := HNn.out; have := Hi0.out; omega
      · gi_wp2
        refine bodyPost_ret (results_none rfl _ _ _) rfl ?_
        have h9 : ∀ x : Upto N, x.1 = k → (pre ++ [x]).map (fun y : Upto N => y.1) = List.range (pre ++ [x]).length := fun x hx => by rw [List.length_append, Hpl.out, List.map_append, HJ.out.1]; simp [hx, List.range_succ]
        exact ⟨⟨_, rfl⟩, .inr ⟨_, h9 ⟨k, hlt⟩ rfl, hJx3⟩⟩
    · have hkn : ¬ i0 < n := by have := HNn.out; omega
      have d0 : decide ((i0 : Int) < (n : Int)) = false := decide_eq_false (by omega)
      have d1 : decide (i0 < n) = false := decide_eq_false hkn
      obtain rfl : k = N := by omega
      gi_wp2
      go_end0
      exact ⟨⟨_, rfl⟩, .inl ⟨pre, HJ.out.1, HJ.out.2⟩⟩
theorem chunk_any (A : Option Addr) (n c : Nat) (w : World) :
    Calls Try.prog 45 #[.slice A n c, .int .i64 256] w fun e w' => e = .returned (.func (.func 62) #[] #[.pointer (some ⟨w.heap.size, 0, none⟩), .pointer (some ⟨w.heap.size + 1, 0, none⟩)]) ∧ w' = (w.alloc (.cells #[.slice A n c] 38)).alloc (.cells #[.int .i64 256] 3) := by
  have hmf : ∀ (fn : Fn) (first cap : Array Value) (w : World), (Instr.makeFunc fn first cap).run Try.prog w = .ok (.func fn first cap) w := fun _ _ _ _ => rfl
  go_enter Try.func45, Try.ntmps45
  go_wp2
  go_ret
  exact ⟨rfl, rfl⟩
theorem chunk_stops (m : Nat) (hm : 1 ≤ m) (Bs Bn b off n N cap : Nat) (hN : N = chunkN n) (hn : n ≤ 1000000) (hcap : n ≤ cap ∧ cap ≤ 9223372036854775807) (w : World) (hBs : Bs < w.heap.size) (hBn : Bn < w.heap.size) (hc : w.cell? ⟨Bs, 0, none⟩ = some (.slice (some ⟨b, off, none⟩) n cap)) (hc2 : w.cell? ⟨Bn, 0, none⟩ = some (.int .i64 256)) :
    SeqStopsK Fence.wide m Try.prog 62 #[.pointer (some ⟨Bs, 0, none⟩), .pointer (some ⟨Bn, 0, none⟩)] (fun x : Upto N => #[chunkV b off n x.1]) (KeepsTwo Bs Bn) (fun ys => ys.map (·.1) = List.range N) (fun pre => pre.map (·.1) = List.range pre.length) N w := fun l J Jx W hW hJ _ hY h0 =>
  chunk1_in m hm l Bs Bn b off n N cap hN hn hcap J Jx W hJ hY ((hW.cell (p := ⟨Bs, 0, none⟩) hBs).trans hc) ((hW.cell (p := ⟨Bn, 0, none⟩) hBn).trans hc2) h0
end Go.Proofs.Ytghenhacndaelaa
