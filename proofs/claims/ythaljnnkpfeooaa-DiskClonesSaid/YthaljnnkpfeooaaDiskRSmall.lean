/- The walks of the reference's there, deed, Stop, now, Read (layer 6). -/
import Derived.Test.YthaljnnkpfeooaaDiskRMem
import Derived.Test.YthaljnnkpfeooaaDiskPRead
set_option linter.unusedVariables false
namespace Go.Proofs.Ythaljnnkpfeooaa
open Go.RowKit

set_option maxRecDepth 100000 in
theorem there_any {w : World} {g : Nat} {G B : Nat → Prop} {d : Dk} (h : RDisk w g G B d) (i : Int) :
    Calls Try.prog 50 #[.pointer (some ⟨g, 0, none⟩), .int .i64 i] w fun e w' => e = .returned (.bool (d.there i)) ∧ w = w' := by
  obtain ⟨s, cs, V, hs, hv, h⟩ := h
  have r0 := h.r0
  obtain ⟨m, hm⟩ : ∃ m, m = d.safe.length := ⟨_, rfl⟩
  have HT : Hid (d.there i = decide (0 ≤ i ∧ i < (m : Int))) := by show _ = _; rw [hm]; rfl
  rw [← hm] at r0
  clear h hm
  by_cases h0 : 0 ≤ i
  · have d0 : decide (i ≥ 0) = true := decide_eq_true h0
    by_cases h1 : i < (m : Int)
    · have HV : Hid (d.there i = true) := by rw [HT.out]; exact decide_eq_true ⟨h0, h1⟩
      have d1 : decide (i < (m : Int)) = true := decide_eq_true h1
      go_enter Try.func50, Try.ntmps50
      go_wp2
      go_ret
      exact ⟨by rw [HV.out]; rfl, rfl⟩
    · have HV : Hid (d.there i = false) := by rw [HT.out]; exact decide_eq_false (fun h => h1 h.2)
      have d1 : decide (i < (m : Int)) = false := decide_eq_false h1
      go_enter Try.func50, Try.ntmps50
      go_wp2
      go_ret
      exact ⟨by rw [HV.out]; rfl, rfl⟩
  · have HV : Hid (d.there i = false) := by rw [HT.out]; exact decide_eq_false (fun h => h0 h.1)
    have d0 : decide (i ≥ 0) = false := decide_eq_false h0
    have d1 : decide ((0 : Int) ≤ i) = false := decide_eq_false h0
    go_enter Try.func50, Try.ntmps50
    go_wp2
    go_ret
    exact ⟨by rw [HV.out]; rfl, rfl⟩

theorem RDisk.gg {w : World} {g : Nat} {G B : Nat → Prop} {d : Dk} (h : RDisk w g G B d) : G g := by obtain ⟨s, cs, V, hs, hv, h⟩ := h; exact h.gg
set_option maxRecDepth 100000 in
set_option maxHeartbeats 1000000 in
theorem deed_any {w : World} {g : Nat} {G B : Nat → Prop} {d : Dk} (h : RDisk w g G B d) :
    Calls Try.prog 52 #[.pointer (some ⟨g, 0, none⟩)] w fun e w' => e = .returned (.bool d.deed.2) ∧ RSame d.deed.1 G B w w' g := by
  obtain ⟨s, cs, V, hs, hv, h⟩ := h
  have r2 := h.r2
  have r3 := h.r3
  have f2 := h.fz 2
  have f3 := h.fz 3
  have hl := h.good.left
  by_cases h0 : d.left = 0
  · have hd : Hid (d.deed = ({ d with off := true }, false)) := by show _ = _; unfold Dk.deed; rw [if_pos h0]
    have HP : Hid (RD (w.setCell ⟨g, 3, none⟩ (.bool true)) g G B { d with off := true } s cs V hs hv) :=
      h.retell (turns_own w g 3 _) rfl rfl hl (h.blk.set_ 3 (.bool true))
    have HG := Lib.hid h.gg
    rw [h0] at r2
    clear h h0 hl
    go_enter Try.func52, Try.ntmps52
    go_wp2
    go_ret
    rw [hd.out]
    exact ⟨rfl, ⟨_, _, _, _, _, HP.out⟩, Turns.set_ HG.out 3 _⟩
  · obtain ⟨l, hl2⟩ : ∃ l, l = d.left := ⟨_, rfl⟩
    rw [← hl2] at r2
    have e0 : (l == 0) = false := by rw [hl2]; simpa using h0
    by_cases h1 : 0 < d.left
    · have hd : Hid (d.deed = ({ d with left := d.left - 1 }, true)) := by show _ = _; unfold Dk.deed; rw [if_neg h0, if_pos h1]
      obtain ⟨l2, hl3⟩ : ∃ l2, l2 = l - 1 := ⟨_, rfl⟩
      have e1 : IntKind.i64.wrap (l - 1) = l2 := by rw [hl3]; exact IntWalk.i64_in _ (by omega)
      have e2 : decide (l > 0) = true := decide_eq_true (by omega)
      have HP : Hid (RD (w.setCell ⟨g, 2, none⟩ (.int .i64 l2)) g G B { d with left := d.left - 1 } s cs V hs hv) := by
        refine h.retell (turns_own w g 2 _) rfl rfl ⟨by show -1 ≤ d.left - 1; omega, by show d.left - 1 ≤ _; omega⟩ ?_
        have := h.blk.set_ 2 (.int .i64 l2)
        rw [hl3, hl2] at this ⊢
        exact this
      have HG := Lib.hid h.gg
      clear h h0 h1 hl hl2 hl3
      go_enter Try.func52, Try.ntmps52
      go_wp2
      go_ret
      rw [hd.out]
      exact ⟨rfl, ⟨_, _, _, _, _, HP.out⟩, Turns.set_ HG.out 2 _⟩
    · have hd : Hid (d.deed = (d, true)) := by show _ = _; unfold Dk.deed; rw [if_neg h0, if_neg h1]
      have e2 : decide (l > 0) = false := decide_eq_false (by omega)
      have e3 : decide (0 < l) = false := decide_eq_false (by omega)
      have H := Lib.hid h
      clear h h0 h1 hl hl2
      go_enter Try.func52, Try.ntmps52
      go_wp2
      go_ret
      rw [hd.out]
      exact ⟨rfl, ⟨_, _, _, _, _, H.out⟩, Turns.refl _ _⟩

set_option maxRecDepth 100000 in
theorem rstop_any {w : World} {g : Nat} {G B : Nat → Prop} {d : Dk} (h : RDisk w g G B d) (i : Int) (hi : InI i) :
    Calls Try.prog 37 #[.pointer (some ⟨g, 0, none⟩), .int .i64 i] w fun e w' => e = .returned (.int .i64 (d.stop i).2) ∧ RSame (d.stop i).1 G B w w' g := by
  obtain ⟨hi1, hi2⟩ := hi
  by_cases h0 : i < 0
  · have d0 : decide (i < 0) = true := decide_eq_true h0
    have HV : Hid (d.stop i = (d, 1)) := by show _ = _; unfold Dk.stop; rw [if_pos h0]
    go_enter Try.func37, Try.ntmps37
    go_wp2
    go_ret
    rw [HV.out]
    exact ⟨rfl, h, Turns.refl _ _⟩
  · have d0 : decide (i < 0) = false := decide_eq_false h0
    have HV : Hid (d.stop i = ({ d with left := i }, 0)) := by show _ = _; unfold Dk.stop; rw [if_neg h0]
    obtain ⟨s, cs, V, hs, hv, h⟩ := h
    have r2 := h.r2
    have f2 := h.fz 2
    have HP : Hid (RD (w.setCell ⟨g, 2, none⟩ (.int .i64 i)) g G B { d with left := i } s cs V hs hv) :=
      h.retell (turns_own w g 2 _) rfl rfl ⟨by show (-1 : Int) ≤ i; omega, hi2⟩ (h.blk.set_ 2 (.int .i64 i))
    have HG := Lib.hid h.gg
    clear h h0 hi1 hi2
    go_enter Try.func37, Try.ntmps37
    go_wp2
    go_ret
    rw [HV.out]
    exact ⟨rfl, ⟨_, _, _, _, _, HP.out⟩, Turns.set_ HG.out 2 _⟩

theorem lastOf_at (n : Nat) : ∀ (l : List (Nat × List UInt8)) (q : Nat) (hq : q < l.length), (l[q]).1 = n → (∀ p (hp : p < l.length), q < p → (l[p]).1 ≠ n) → Dk.lastOf n l = some (l[q]).2
  | x :: l, 0, _, h, hn => by
    rw [Dk.lastOf, Dk.lastOf_none n l (fun y hy => by
      obtain ⟨i, hi, rfl⟩ := List.getElem_of_mem hy
      exact hn (i + 1) (by simpa using hi) (by omega))]
    simp at h
    simp [h]
  | x :: l, q + 1, hq, h, hn => by
    rw [Dk.lastOf, lastOf_at n l q (by simpa using hq) (by simpa using h) (fun p hp hlt => by have := hn (p + 1) (by simpa using hp) (by omega); simpa using this)]
    simp

set_option maxRecDepth 100000 in
set_option maxHeartbeats 2000000 in
/-- A block's bytes, as they were written last: a header. -/
theorem now_any {w : World} {g : Nat} {G B : Nat → Prop} {d : Dk} (h : RDisk w g G B d) (k : Nat) (hk : k < d.safe.length) (hl : d.waits.length ≤ 1000000) :
    Calls Try.prog 51 #[.pointer (some ⟨g, 0, none⟩), .int .i64 (k : Int)] w fun e w' => (∃ v, e = .returned v ∧ Hdr w B v (d.now k)) ∧ w = w' := by
  obtain ⟨s, cs, V, hs, hv, h⟩ := h
  obtain ⟨A, c, rfl, hc1, hc2⟩ := h.vform
  have r1 := h.r1
  obtain ⟨m, hm⟩ : ∃ m, m = d.waits.length := ⟨_, rfl⟩
  rw [← hm] at r1 hc1 hl
  have H := Lib.hid h
  have Hm := Lib.hid hm
  have HK := Lib.hid hk
  have e0 : IntKind.i64.wrap ((m : Int) - 1) = (m : Int) - 1 := IntWalk.i64_in _ (by omega)
  clear h hm hk
  go_enter Try.func51, Try.ntmps51
  go_wp2
  clear e0
  go_loop [5] (fun x => ∃ j : Nat, j ≤ m ∧ x = .int .i64 ((j : Int) - 1) ∧ Hid (∀ p (hp : p < d.waits.length), j ≤ p → (d.waits[p]).1 ≠ k)) (fun x => (intOf x + 1).toNat)
  case atStart => exact ⟨m, by omega, rfl, fun p hp hj => absurd hp (by have := Hm.out; omega)⟩
  case round =>
    obtain ⟨j, hj, rfl, HN⟩ := hrel
    by_cases h0 : 0 < j
    · obtain ⟨q, rfl⟩ : ∃ q, j = q + 1 := ⟨j - 1, by omega⟩
      have eq1 : (((q + 1 : Nat) : Int) - 1) = (q : Int) := by omega
      rw [eq1]
      obtain ⟨gv, cv, hV, hvs, hvg, hvG, hm1, hm2, hcell⟩ := H.out.row (by have := Hm.out; omega)
      obtain ⟨rfl, -, rfl⟩ : A = some ⟨gv, 0, none⟩ ∧ m = d.waits.length ∧ c = cv := by
        have := Hm.out
        simp only [Value.slice.injEq] at hV
        exact ⟨hV.1, this, hV.2.2⟩
      have hq : q < d.waits.length := by have := Hm.out; omega
      obtain ⟨c1, v, c2, hh⟩ := hcell q hq
      obtain ⟨xn, hxn⟩ : ∃ xn, xn = (d.waits[q]).1 := ⟨_, rfl⟩
      rw [← hxn] at c1
      have u0 : (0 : Int) ≤ (q : Int) := by omega
      have u1 : (q : Int) < (m : Int) := by omega
      have d0 : decide ((q : Int) ≥ 0) = true := decide_eq_true (by omega)
      by_cases hx : xn = k
      · have HV : Hid (d.now k = (d.waits[q]).2) := by
          show _ = _
          unfold Dk.now
          rw [lastOf_at k d.waits q hq (by rw [← hxn]; exact hx) (fun p hp hlt => HN.out p hp (by omega))]
          rfl
        have Hh : Hid (Hdr w B v (d.waits[q]).2) := hh
        obtain ⟨_, b1, o1, cc1, rfl, _⟩ := hh
        subst hx
        have d1 : ((xn : Int) == (xn : Int)) = true := by simp
        clear hV hcell hxn
        go_wp2
        go_ret
        refine ⟨⟨_, rfl, ?_⟩, rfl⟩
        rw [HV.out]; exact Hh.out
      · have HN2 : Hid (∀ p (hp : p < d.waits.length), q ≤ p → (d.waits[p]).1 ≠ k) := fun p hp hqp => by
          by_cases hpq : p = q
          · subst hpq; rw [← hxn]; exact hx
          · exact HN.out p hp (by omega)
        have d1 : ((xn : Int) == (k : Int)) = false := by simp; omega
        have d2 : (xn == k) = false := by simpa using hx
        clear hV hcell hxn hh hx HN
        go_wp2
        refine ⟨⟨q, by omega, rfl, HN2⟩, ?_⟩
        simp [intOf]
    · have hj0 : j = 0 := by omega
      subst hj0
      obtain ⟨v, _, c3, hh⟩ := H.out.at_ HK.out
      have HV : Hid (d.now k = d.safe[k]'HK.out) := by
        show _ = _
        unfold Dk.now
        rw [Dk.lastOf_none k d.waits (fun x hx => by obtain ⟨p, hp, rfl⟩ := List.getElem_of_mem hx; exact HN.out p hp (by omega))]
        have := HK.out
        simp [List.getD, this]
      have Hh : Hid (Hdr w B v (d.safe[k]'HK.out)) := hh
      obtain ⟨_, b1, o1, cc1, rfl, _⟩ := hh
      have r0 := H.out.r0
      obtain ⟨n, hn⟩ : ∃ n, n = d.safe.length := ⟨_, rfl⟩
      rw [← hn] at r0
      have u0 : (0 : Int) ≤ (k : Int) := by omega
      have u1 : (k : Int) < (n : Int) := by have := HK.out; omega
      clear hn HN
      go_wp2
      go_ret
      refine ⟨⟨_, rfl, ?_⟩, rfl⟩
      rw [HV.out]; exact Hh.out

end Go.Proofs.Ythaljnnkpfeooaa
