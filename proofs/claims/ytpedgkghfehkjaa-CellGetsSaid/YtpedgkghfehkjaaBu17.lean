/- Lemmas under the proofs of this place: CellPParts, CellPFind, CellRSame. No statement is proved here. -/
import Derived.Test.YtpedgkghfehkjaaBu14
import Derived.Test.YtpedgkghfehkjaaBu12
import Derived.Test.YtpedgkghfehkjaaBu11
import Derived.RangeFuncNested
import Derived.RangeFuncBound
import Derived.RangeFuncCalls
import Derived.RangeFuncLeaves
import Derived.Shelf.Abstract
import Derived.OwnWalkIn
import Derived.WalkKit
import Derived.TacticsInMore
import Derived.LoopNIn
import Derived.LoopIn
import Derived.Deep.RegionWith
section
set_option linter.unusedVariables false
set_option linter.unusedSimpArgs false
namespace Go.Proofs.Ytpedgkghfehkjaa
open Go.RowKit Go.Shelf
attribute [local go_sem] Oper.semAt_some
def Upto (N : Nat) : Type := { i : Nat // i < N }
def KeepsAt (B : Nat) (W W' : World) : Prop := W'.cell? ⟨B, 0, none⟩ = W.cell? ⟨B, 0, none⟩
def partV (b off n c i : Nat) : Value := .slice (some ⟨b, off + i * 242, none⟩) (if n < i * 242 + 242 then n - i * 242 else 242) (c - i * 242)
set_option maxRecDepth 100000 in
set_option maxHeartbeats 2000000 in
theorem cparts1_in (m : Nat) (hm : 1 ≤ m) (l Bs b off n N cap : Nat) (hN : N = needC n) (hn : n ≤ 1000000) (hcap : n ≤ cap) (J Jx : List (Upto N) → World → Prop)
    (hY : ∀ pre x W, J pre W → pre.length < N → YieldAt Fence.wide (m - 1) Try.prog l #[.int .i64 (x.1 : Int), partV b off n cap x.1] W fun e W' =>
      (e = .returned (.bool true) ∧ J (pre ++ [x]) W' ∧ KeepsAt Bs W W') ∨ (e = .returned (.bool false) ∧ Jx (pre ++ [x]) W'))
    (W : World) (hc : W.cell? ⟨Bs, 0, none⟩ = some (.slice (some ⟨b, off, none⟩) n cap)) (h0 : J [] W) :
    CallsIn Fence.wide m Try.prog 49 #[.func (.yield l) #[] #[], .pointer (some ⟨Bs, 0, none⟩)] W fun e W' => (∃ v, e = .returned v) ∧
      ((∃ ys : List (Upto N), ys.map (·.1) = List.range N ∧ J ys W') ∨ (∃ pre, True ∧ Jx pre W')) := by
  have HN : Hid (∀ W, Calls Try.prog 16 #[.int .i64 (n : Int)] W fun e w' => e = .returned (.int .i64 (N : Int)) ∧ W = w') := fun W => by rw [hN]; exact cneed_any n (by omega) W
  have HNn : Hid (N = (n + 241) / 242) := hN
  have hN1 : N ≤ 5000 := by have := HNn.out; omega
  have nf := fun w' => Try.notFalse w'
  have nt := fun w' => Try.notTrue w'
  have HC := Lib.hid hc
  have HY := Lib.hid hY
  have H0 := Lib.hid h0
  clear hN hY h0
  refine callsIn_of_wp Try.func49 rfl trivial ?_ rfl
  simp only [Try.ntmps49, List.size_toArray, List.length_cons, List.length_nil, Nat.reduceAdd, Nat.reduceSub, Array.replicate_succ, Array.replicate_zero, List.push_toArray, List.append_toArray, List.nil_append, List.cons_append]
  gi_wp2_with (refine ⟨trivial, ?_⟩; gi_at_call 16; refine (callsIn_wide.2 (HN.out _)).mono ?_; rintro e w1 ⟨rfl, rfl⟩)
  clear hc
  gi_loopw [8] (fun i wr => ∃ k : Nat, k ≤ N ∧ i = .int .i64 (k : Int) ∧ ∃ pre : List (Upto N), Hid (pre.map (·.1) = List.range k ∧ J pre wr) ∧ Hid (KeepsAt Bs W wr))
    (fun i _ => N - (intOf i).toNat)
  case atStart => exact ⟨0, Nat.zero_le _, rfl, [], ⟨rfl, H0.out⟩, rfl⟩
  case round =>
    obtain ⟨k, hk, rfl, pre, HJ, HB⟩ := hrel
    have hpl : pre.length = k := by have := congrArg List.length HJ.out.1; simpa using this
    by_cases hlt : k < N
    · have hcx := Eq.trans HB.out HC.out
      have hkn : 242 * k < n := by have := HNn.out; omega
      obtain ⟨fn, tmps, assign, body, hy, hR⟩ := HY.out pre ⟨k, hlt⟩ wr HJ.out.2 (by omega)
      dsimp only at hy
      unfold partV at hy
      have HCX := Lib.hid hcx
      have hne : ¬ cap = k * 242 := by omega
      by_cases hlast : n < k * 242 + 242
      · rw [if_pos hlast] at hy
        have u1 : (n : Int) < (k : Int) * 242 + 242 := by omega
        have u2 : ¬ (k : Int) * 242 + 242 ≤ (n : Int) := by omega
        have em : min ((k : Int) * 242 + 242) (n : Int) = (n : Int) := by omega
        clear hpl hn
        gi_wp2
        refine hR.mono ?_
        rintro e W3 (⟨rfl, hJ3, hk3⟩ | ⟨rfl, hJx3⟩)
        · gi_wp2
          go_roundw
          case rel => exact ⟨k + 1, by omega, by go_num, pre ++ [⟨k, hlt⟩], ⟨by rw [List.map_append, HJ.out.1, List.range_succ]; rfl, hJ3⟩, Eq.trans hk3 HB.out⟩
          case measure => simp [intOf]; omega
        · gi_wp2
          refine bodyPost_ret (results_none rfl _ _ _) rfl ?_
          exact ⟨⟨_, rfl⟩, .inr ⟨_, trivial, hJx3⟩⟩
      · rw [if_neg hlast] at hy
        have u1 : (k : Int) * 242 + 242 ≤ (n : Int) := by omega
        have em : min ((k : Int) * 242 + 242) (n : Int) = (k : Int) * 242 + 242 := by omega
        have et : ((k : Int) * 242 + 242).toNat = k * 242 + 242 := by omega
        have ed : k * 242 + 242 - k * 242 = 242 := by omega
        clear hpl hn
        gi_wp2
        refine hR.mono ?_
        rintro e W3 (⟨rfl, hJ3, hk3⟩ | ⟨rfl, hJx3⟩)
        · gi_wp2
          go_roundw
          case rel => exact ⟨k + 1, by omega, by go_num, pre ++ [⟨k, hlt⟩], ⟨by rw [List.map_append, HJ.out.1, List.range_succ]; rfl, hJ3⟩, Eq.trans hk3 HB.out⟩
          case measure => simp [intOf]; omega
        · gi_wp2
          refine bodyPost_ret (results_none rfl _ _ _) rfl ?_
          exact ⟨⟨_, rfl⟩, .inr ⟨_, trivial, hJx3⟩⟩
    · obtain rfl : k = N := by omega
      gi_wp2
      go_end0
      exact ⟨⟨_, rfl⟩, .inl ⟨pre, HJ.out.1, HJ.out.2⟩⟩
set_option maxRecDepth 100000 in
theorem cparts_any (A : Option Addr) (n c : Nat) (w : World) :
    Calls Try.prog 33 #[.slice A n c] w fun e w' => e = .returned (.func (.func 49) #[] #[.pointer (some ⟨w.heap.size, 0, none⟩)]) ∧ w' = w.alloc (.cells #[.slice A n c] 22) := by
  have hmf : ∀ (fn : Fn) (first cap : Array Value) (w : World), (Instr.makeFunc fn first cap).run Try.prog w = .ok (.func fn first cap) w := fun _ _ _ _ => rfl
  go_enter Try.func33, Try.ntmps33
  go_wp2
  go_ret
  exact ⟨rfl, rfl⟩
theorem cparts_stops (m : Nat) (hm : 1 ≤ m) (Bs b off n N cap : Nat) (hN : N = needC n) (hn : n ≤ 1000000) (hcap : n ≤ cap) (w : World) (hBs : Bs < w.heap.size) (hc : w.cell? ⟨Bs, 0, none⟩ = some (.slice (some ⟨b, off, none⟩) n cap)) :
    SeqStopsK Fence.wide m Try.prog 49 #[.pointer (some ⟨Bs, 0, none⟩)] (fun x : Upto N => #[.int .i64 (x.1 : Int), partV b off n cap x.1]) (KeepsAt Bs) (fun ys => ys.map (·.1) = List.range N) (fun _ => True) N w := fun l J Jx W hW _ _ hY h0 =>
  cparts1_in m hm l Bs b off n N cap hN hn hcap J Jx hY W ((hW.cell (p := ⟨Bs, 0, none⟩) hBs).trans hc) h0
end Go.Proofs.Ytpedgkghfehkjaa
end
section
set_option linter.unusedVariables false
set_option linter.unusedSimpArgs false
namespace Go.Proofs.Ytpedgkghfehkjaa
open Go.RowKit
def FoundZ (Z : List Int) (w : World) (e : Ending) (w' : World) : Prop := ∃ z : Int, e = .returned (.int .i64 z) ∧ (decide (0 ≤ z) = Z.any (fun p => !placeOk p)) ∧ w = w'
theorem no_bad {Z : List Int} {n : Nat} (hn : n = Z.length) (h : ∀ j (hj : j < Z.length), j < n → placeOk Z[j] = true) : Z.any (fun p => !placeOk p) = false := by
  rw [List.any_eq_false]
  intro x hx
  obtain ⟨j, hj, rfl⟩ := List.getElem_of_mem hx
  rw [h j hj (by omega)]
  decide
theorem one_bad {Z : List Int} {k : Nat} (hk : k < Z.length) (h : placeOk Z[k] = false) : Z.any (fun p => !placeOk p) = true := by
  rw [List.any_eq_true]
  exact ⟨Z[k], List.getElem_mem hk, by rw [h]; rfl⟩
set_option maxRecDepth 100000 in
set_option maxHeartbeats 2000000 in
theorem cindex_any (Z : List Int) (n : Nat) (A : Option Addr) (c : Nat) (w : World) (hn : n = Z.length) (hs : n ≤ 1000000) (hA : RI w w.heap.size A Z) :
    Calls Try.prog 47 #[.slice A n c, .func (.func 31) #[] #[]] w (FoundZ Z w) := by
  have HN := Lib.hid hn
  have HI := Lib.hid hA
  clear hn hA
  go_enter Try.func47, Try.ntmps47
  go_wp2
  go_loop [8] (fun i => ∃ k : Nat, k ≤ n ∧ i = .int .i64 (k : Int) ∧ Hid (∀ j (hj : j < Z.length), j < k → placeOk Z[j] = true)) (fun i => n - (intOf i).toNat)
  case atStart => exact ⟨0, by omega, rfl, fun j _ hj => by omega⟩
  case round =>
    obtain ⟨k, hk, rfl, HB⟩ := hrel
    by_cases hlt : k < n
    · have hkl : k < Z.length := by rw [← HN.out]; exact hlt
      obtain ⟨b, off, rfl, hbw, hc⟩ := HI.out (by omega)
      have hck := hc k hkl
      have H0 : Hid (∀ W, Calls Try.prog 31 #[.int .i64 Z[k]] W fun e w' => e = .returned (.bool (!(placeOk Z[k]))) ∧ W = w') := fun W => cnoplace_gives _ _ rfl W
      obtain ⟨z, hz⟩ : ∃ z, z = Z[k] := ⟨_, rfl⟩
      rw [← hz] at hck H0
      have HZ := Lib.hid hz
      clear hc hz
      cases hp : placeOk z with
      | true =>
        rw [hp] at H0
        have HP := Lib.hid hp
        clear hp
        go_wp2_with (go_at_call 31; (with_reducible refine (H0.out _).mono ?_); rintro e w1 ⟨rfl, rfl⟩)
        go_round
        case rel =>
          refine ⟨k + 1, by omega, by go_num, fun j hj hj2 => ?_⟩
          by_cases h : j < k
          · exact HB.out j hj h
          · have : j = k := by omega
            subst this
            rw [← HZ.out]
            exact HP.out
        case measure => simp [intOf]; omega
      | false =>
        rw [hp] at H0
        have HP := Lib.hid hp
        clear hp
        go_wp2_with (go_at_call 31; (with_reducible refine (H0.out _).mono ?_); rintro e w1 ⟨rfl, rfl⟩)
        go_ret
        exact ⟨_, rfl, by rw [one_bad hkl (by rw [← HZ.out]; exact HP.out)]; exact decide_eq_true (by omega), rfl⟩
    · obtain rfl : k = n := by omega
      go_wp2
      go_ret
      exact ⟨_, rfl, by rw [no_bad HN.out HB.out]; decide, rfl⟩
set_option maxRecDepth 100000 in
set_option maxHeartbeats 2000000 in
theorem ccontains_any (Z : List Int) (n : Nat) (A : Option Addr) (c : Nat) (w : World) (hn : n = Z.length) (hs : n ≤ 1000000) (hA : RI w w.heap.size A Z) :
    Calls Try.prog 30 #[.slice A n c, .func (.func 31) #[] #[]] w fun e w' => e = .returned (.bool (Z.any (fun p => !placeOk p))) ∧ w = w' := by
  have H0 := Lib.hid (cindex_any Z n A c w hn hs hA)
  obtain ⟨v, hv⟩ : ∃ v, v = Z.any (fun p => !placeOk p) := ⟨_, rfl⟩
  rw [← hv]
  have HV := Lib.hid hv
  clear hv hn hA
  go_enter Try.func30, Try.ntmps30
  go_wp2_with (go_at_call 47; (with_reducible refine H0.out.mono ?_); rintro e w1 ⟨z, rfl, hz, rfl⟩; have HZ := Lib.hid hz; clear hz)
  go_ret
  refine ⟨?_, rfl⟩
  rw [HV.out, ← HZ.out]
  rfl
end Go.Proofs.Ytpedgkghfehkjaa
end
section
set_option linter.unusedVariables false
namespace Go.Proofs.Ytpedgkghfehkjaa
open Go.RowKit
set_option maxRecDepth 100000 in
set_option maxHeartbeats 4000000 in
theorem rcsame_yes (s : Ce) (A A' : Option Addr) (c c' : Nat) (w : World) (h1 : RB w w.heap.size A s.data) (h2 : RB w w.heap.size A' s.data) :
    Calls Try.prog 10 #[ceV s A c, ceV s A' c'] w fun e w' => e = .returned (.bool true) ∧ Below w.heap.size w w' := by
  obtain ⟨k, n, l, D⟩ := s
  simp only at h1 h2
  obtain ⟨m, hm⟩ : ∃ m, m = D.length := ⟨_, rfl⟩
  unfold ceV
  simp only
  rw [← hm]
  have hb : Below w.heap.size w ((w.alloc (.cells #[.int .i64 k, .int .i64 n, .int .i64 l, .slice A m c] 24)).alloc (.cells #[.int .i64 k, .int .i64 n, .int .i64 l, .slice A' m c'] 24)) := ((Below.refl _ _).alloc (Nat.le_refl _) _).alloc (by simp) _
  have s1 := aw_str (rb_up7 h1 hb) m c hm
  have s2 := aw_str (rb_up7 h2 hb) m c' hm
  have HB := Lib.hid hb
  clear h1 h2 hm hb
  go_enter Try.func10, Try.ntmps10
  go_wp2
  go_ret
  exact ⟨rfl, HB.out⟩
set_option maxRecDepth 100000 in
set_option maxHeartbeats 4000000 in
theorem rcall_yes (l : List Ce) (n : Nat) (A A' : Option Addr) (c c' : Nat) (w : World) (hn : n = l.length) (hl : n ≤ 1000000) (h1 : CL w w.heap.size A l) (h2 : CL w w.heap.size A' l) :
    Calls Try.prog 15 #[.slice A n c, .slice A' n c'] w fun e w' => e = .returned (.bool true) ∧ Below w.heap.size w w' := by
  have H1 := Lib.hid h1
  have H2 := Lib.hid h2
  have Hn := Lib.hid hn
  have a24 := fun w' => Try.aggCell w'
  have s24 := fun w' => Try.sizeCell w'
  have y0 := fun w' => Try.notTrue w'
  have y1 := fun w' => Try.notFalse w'
  clear h1 h2 hn
  go_enter Try.func15, Try.ntmps15
  go_wp2
  go_loopw [5] (fun x wr => ∃ i : Nat, i ≤ n ∧ x = .int .i64 (i : Int) ∧ Hid (Below w.heap.size w wr)) (fun x _ => n - (intOf x).toNat)
  case atStart => exact ⟨0, by omega, rfl, Below.refl _ _⟩
  case round =>
    obtain ⟨i, hi, rfl, hb⟩ := hrel
    by_cases hlt : i < n
    · have hi2 : i < l.length := by have := Hn.out; omega
      obtain ⟨b1, o1, rfl, hb1, hc1⟩ := H1.out (by omega)
      obtain ⟨b2, o2, rfl, hb2, hc2⟩ := H2.out (by omega)
      obtain ⟨dA, dc, r1, k0, k1, k2, k3⟩ := hc1 i hi2
      obtain ⟨dB, db, r2, j0, j1, j2, j3⟩ := hc2 i hi2
      obtain ⟨ow, how⟩ : ∃ x, x = l[i].owner := ⟨_, rfl⟩
      obtain ⟨nu, hnu⟩ : ∃ x, x = l[i].number := ⟨_, rfl⟩
      obtain ⟨nx, hnx⟩ : ∃ x, x = l[i].next := ⟨_, rfl⟩
      obtain ⟨dl, hdl⟩ : ∃ x, x = l[i].data.length := ⟨_, rfl⟩
      have hbo := hb.out
      have HSm : Hid (∀ W, Below w.heap.size w W → Calls Try.prog 10 #[.agg #[.int .i64 ow, .int .i64 nu, .int .i64 nx, .slice dA dl dc], .agg #[.int .i64 ow, .int .i64 nu, .int .i64 nx, .slice dB dl db]] W fun e w' => e = .returned (.bool true) ∧ Hid (Below w.heap.size w w')) := fun W hW => by
        rw [how, hnu, hnx, hdl]
        exact (rcsame_yes l[i] dA dB dc db W ((r1.below hW).more hW.size) ((r2.below hW).more hW.size)).mono fun e w' hh => ⟨hh.1, chain7 hW hh.2⟩
      have v0 : wr.cell? ⟨b1, o1 + i * 4, none⟩ = some (.int .i64 ow) := by rw [how]; exact (hbo.cell (p := ⟨b1, o1 + i * 4, none⟩) hb1).trans k0
      have v1 : wr.cell? ⟨b1, o1 + i * 4 + 1, none⟩ = some (.int .i64 nu) := by rw [hnu]; exact (hbo.cell (p := ⟨b1, o1 + i * 4 + 1, none⟩) hb1).trans k1
      have v2 : wr.cell? ⟨b1, o1 + i * 4 + 2, none⟩ = some (.int .i64 nx) := by rw [hnx]; exact (hbo.cell (p := ⟨b1, o1 + i * 4 + 2, none⟩) hb1).trans k2
      have v3 : wr.cell? ⟨b1, o1 + i * 4 + 3, none⟩ = some (.slice dA dl dc) := by rw [hdl]; exact (hbo.cell (p := ⟨b1, o1 + i * 4 + 3, none⟩) hb1).trans k3
      have x0 : wr.cell? ⟨b2, o2 + i * 4, none⟩ = some (.int .i64 ow) := by rw [how]; exact (hbo.cell (p := ⟨b2, o2 + i * 4, none⟩) hb2).trans j0
      have x1 : wr.cell? ⟨b2, o2 + i * 4 + 1, none⟩ = some (.int .i64 nu) := by rw [hnu]; exact (hbo.cell (p := ⟨b2, o2 + i * 4 + 1, none⟩) hb2).trans j1
      have x2 : wr.cell? ⟨b2, o2 + i * 4 + 2, none⟩ = some (.int .i64 nx) := by rw [hnx]; exact (hbo.cell (p := ⟨b2, o2 + i * 4 + 2, none⟩) hb2).trans j2
      have x3 : wr.cell? ⟨b2, o2 + i * 4 + 3, none⟩ = some (.slice dB dl db) := by rw [hdl]; exact (hbo.cell (p := ⟨b2, o2 + i * 4 + 3, none⟩) hb2).trans j3
      have d0 : decide ((i : Int) < (n : Int)) = true := decide_eq_true (by omega)
      have d1 : decide (i < n) = true := decide_eq_true hlt
      have hbd : Below w.heap.size w wr.drew := hbo.drew
      clear hc1 hc2 r1 r2 k0 k1 k2 k3 j0 j1 j2 j3 how hnu hnx hdl hbo hb1 hb2
      go_wp2
      go_region_with (go_at_call 10; (with_reducible refine (HSm.out _ hbd).mono ?_); rintro e w1 ⟨rfl, t1⟩)
      all_goals
        go_wp2
        refine ⟨⟨i + 1, by omega, by go_num, t1⟩, ?_⟩
        simp [intOf]; omega
    · have d0 : decide ((i : Int) < (n : Int)) = false := decide_eq_false (by omega)
      have d1 : decide (i < n) = false := decide_eq_false hlt
      go_wp2
      go_ret
      exact ⟨rfl, hb.out⟩
end Go.Proofs.Ytpedgkghfehkjaa
end
