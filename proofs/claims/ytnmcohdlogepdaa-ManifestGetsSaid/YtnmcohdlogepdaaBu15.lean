/- Lemmas under the proofs of this place: ManRCheck, ManPMay, NumAt. No statement is proved here. -/
import Derived.Test.YtnmcohdlogepdaaBu13
import Derived.Test.YtnmcohdlogepdaaBu03
import Derived.Test.YtnmcohdlogepdaaBu11
section
set_option linter.unusedVariables false
set_option linter.unusedSimpArgs false
namespace Go.Proofs.Ytnmcohdlogepdaa
open Go.RowKit
theorem Try.notTm (w : World) : Sem.run Try.prog (Op.unary UnOp.not (Value.bool true)) w = .ok (.bool false) w := by kernel_rfl
theorem Try.notFm (w : World) : Sem.run Try.prog (Op.unary UnOp.not (Value.bool false)) w = .ok (.bool true) w := by kernel_rfl
theorem Mf.parts_len (m : Mf) : m.parts.length ≤ m.segs.length + 1 := by
  unfold Mf.parts
  split
  · omega
  · simp
theorem Mf.check_many {m : Mf} (h : 8 < m.segs.length) : m.check = 4 := by unfold Mf.check; rw [if_pos h]
theorem Mf.check_arg {m : Mf} (h : ¬ 8 < m.segs.length) (i : Nat) (hi : i < m.parts.length) (hk : m.parts[i].ok = false) : m.check = 1 := by
  unfold Mf.check
  rw [if_neg h, if_pos]
  rw [List.all_eq_false]
  exact ⟨_, List.getElem_mem hi, by simp [hk]⟩
theorem all_at {l : List Pt} (h : ∀ i (hi : i < l.length), l[i].ok = true) : ¬ l.all Pt.ok = false := by
  have : l.all Pt.ok = true := List.all_eq_true.2 fun p hp => by
    obtain ⟨i, hi, rfl⟩ := List.getElem_of_mem hp
    exact h i hi
  rw [this]; simp
theorem Mf.check_twice {m : Mf} (h : ¬ 8 < m.segs.length) (ha : ∀ i (hi : i < m.parts.length), m.parts[i].ok = true) (q i : Nat) (hi : i < m.parts.length) (hq : q < i) (he : m.parts[q].f = m.parts[i].f) : m.check = 7 := by
  unfold Mf.check
  rw [if_neg h, if_neg (all_at ha), if_neg]
  intro hn
  have h1 := List.pairwise_iff_getElem.1 hn q i (by simp; omega) (by simpa using hi) hq
  simp at h1
  exact h1 he
theorem Mf.check_fine {m : Mf} (h : ¬ 8 < m.segs.length) (ha : ∀ i (hi : i < m.parts.length), m.parts[i].ok = true) (hd : ∀ q i (hi : i < m.parts.length) (hq : q < i), m.parts[q].f ≠ m.parts[i].f) : m.check = 0 := by
  unfold Mf.check
  rw [if_neg h, if_neg (all_at ha), if_pos]
  exact List.pairwise_iff_getElem.2 fun q i hq hi hlt => by
    simp
    exact hd q i (by simpa using hi) hlt
theorem pt_cells {w : World} {A : Option Addr} {l : List Pt} (h : PtL w w.heap.size A l) (i : Nat) (hi : i < l.length) : ∃ b off, A = some ⟨b, off, none⟩ ∧ ∀ W, Below w.heap.size w W → ∀ j (hj : j < l.length), W.cell? ⟨b, off + j * 3, none⟩ = some (.int .i64 l[j].f) ∧ W.cell? ⟨b, off + j * 3 + 1, none⟩ = some (.int .i64 l[j].s) ∧ W.cell? ⟨b, off + j * 3 + 2, none⟩ = some (.int .i64 l[j].o) := by
  obtain ⟨b, off, e, hlt, hc⟩ := h (by omega)
  refine ⟨b, off, e, fun W hb j hj => ?_⟩
  obtain ⟨k0, k1, k2⟩ := hc j hj
  exact ⟨(hb.cell (p := ⟨b, off + j * 3, none⟩) hlt).trans k0, (hb.cell (p := ⟨b, off + j * 3 + 1, none⟩) hlt).trans k1, (hb.cell (p := ⟨b, off + j * 3 + 2, none⟩) hlt).trans k2⟩
set_option maxRecDepth 100000 in
set_option maxHeartbeats 4000000 in
theorem rmcheck_any (m : Mf) (A : Option Addr) (c : Nat) (w : World) (h : MfAt w m A c) : Calls Try.prog 47 #[mfV m A c] w fun e w' => e = .returned (.int .i64 m.check) ∧ Below w.heap.size w w' := by
  obtain ⟨ck, hck⟩ : ∃ x, x = m.check := ⟨_, rfl⟩
  obtain ⟨n, hn⟩ : ∃ n, n = m.segs.length := ⟨_, rfl⟩
  obtain ⟨k, hk⟩ : ∃ n, n = m.parts.length := ⟨_, rfl⟩
  obtain ⟨f, hf⟩ : ∃ n, n = m.snap.f := ⟨_, rfl⟩
  obtain ⟨s, hs⟩ : ∃ n, n = m.snap.s := ⟨_, rfl⟩
  obtain ⟨o, ho⟩ : ∃ n, n = m.snap.o := ⟨_, rfl⟩
  have HP : Hid (∀ W, Below w.heap.size w W → Calls Try.prog 55 #[.agg #[.slice A n c, .int .i64 f, .int .i64 s, .int .i64 o]] W fun e w' => ∃ B d, e = .returned (.slice B k d) ∧ Hid (PtL w' w'.heap.size B m.parts) ∧ Below W.heap.size W w') := fun W hb => by
    have := rmparts_any m A c W (h.up hb)
    unfold mfV at this
    rwa [← hn, ← hf, ← hs, ← ho, ← hk] at this
  have HPt : Hid (∀ W (pf ps po : Int) (bk : Bool), Pt.ok ⟨pf, ps, po⟩ = bk → Calls Try.prog 56 #[.agg #[.int .i64 pf, .int .i64 ps, .int .i64 po]] W fun e w' => e = .returned (.bool bk) ∧ Below W.heap.size W w') := fun W pf ps po bk hh => by rw [← hh]; exact rpart_any pf ps po W
  have hn1 : n ≤ 1000 := by rw [hn]; exact h.few
  have hk1 : k ≤ n + 1 := by rw [hk, hn]; exact m.parts_len
  have Hn := Lib.hid hn
  have Hk := Lib.hid hk
  have Hck := Lib.hid hck
  have a29 := fun w' => Try.manAgg w'
  have s29 := fun w' => Try.manSize w'
  have a27 := fun w' => Try.partAgg w'
  have s27 := fun w' => Try.partSize w'
  have n0 := fun w' => Try.notTm w'
  have n1 := fun w' => Try.notFm w'
  have hb1 : Below w.heap.size w (w.alloc (.cells #[.slice A n c, .int .i64 f, .int .i64 s, .int .i64 o] 29)) := (Below.refl _ _).alloc (Nat.le_refl _) _
  unfold mfV
  rw [← hn, ← hf, ← hs, ← ho, ← hck]
  by_cases h8 : 8 < n
  · have d0 : decide ((8 : Int) < (n : Int)) = true := decide_eq_true (by omega)
    have d1 : decide ((n : Int) > 8) = true := decide_eq_true (by omega)
    have d2 : decide (8 < n) = true := decide_eq_true h8
    have h4 : ck = 4 := by rw [hck]; exact Mf.check_many (by omega)
    clear h hn hk hf hs ho hck
    go_enter Try.func47, Try.ntmps47
    go_wp2
    go_ret
    exact ⟨by rw [h4]; rfl, hb1⟩
  · have d0 : decide ((8 : Int) < (n : Int)) = false := decide_eq_false (by omega)
    have d1 : decide ((n : Int) > 8) = false := decide_eq_false (by omega)
    have d2 : decide (8 < n) = false := decide_eq_false h8
    clear h hn hk hf hs ho hck
    go_enter Try.func47, Try.ntmps47
    go_wp2_with (go_at_call 55; (with_reducible refine (HP.out _ hb1).mono ?_); rintro e w2 ⟨B, d, rfl, H2, b2⟩)
    have HB2 : Hid (Below w.heap.size w w2) := chainM hb1 b2
    clear hb1 b2
    go_loopw [4] (fun x wr => ∃ i : Nat, i ≤ k ∧ x = .int .i64 (i : Int) ∧ Hid (Below w2.heap.size w2 wr ∧ ∀ j (hj : j < m.parts.length), j < i → m.parts[j].ok = true)) (fun x _ => k - (intOf x).toNat)
    case atStart => exact ⟨0, by omega, rfl, Below.refl _ _, fun j _ hj => by omega⟩
    case round =>
      obtain ⟨i, hi, rfl, HI⟩ := hrel
      by_cases hlt : i < k
      · have hil : i < m.parts.length := by have := Hk.out; omega
        obtain ⟨b, off, rfl, hc⟩ := pt_cells H2.out i hil
        obtain ⟨v0, v1, v2⟩ := hc _ HI.out.1 i hil
        clear hc
        obtain ⟨pf, hpf⟩ : ∃ x, x = m.parts[i].f := ⟨_, rfl⟩
        obtain ⟨ps, hps⟩ : ∃ x, x = m.parts[i].s := ⟨_, rfl⟩
        obtain ⟨po, hpo⟩ : ∃ x, x = m.parts[i].o := ⟨_, rfl⟩
        obtain ⟨bk, hbk⟩ : ∃ x, x = m.parts[i].ok := ⟨_, rfl⟩
        have hq : Pt.ok ⟨pf, ps, po⟩ = bk := by rw [hpf, hps, hpo, hbk]
        have HQ := Lib.hid hq
        have HBk := Lib.hid hbk
        rw [← hpf] at v0
        rw [← hps] at v1
        rw [← hpo] at v2
        have d3 : decide ((i : Int) < (k : Int)) = true := decide_eq_true (by omega)
        have d4 : decide (i < k) = true := decide_eq_true hlt
        have y7 : IntKind.i64.wrap ((i : Int) + 1) = (i : Int) + 1 := IntWalk.i64_in _ (by omega)
        clear hpf hps hpo hbk hq
        cases bk
        · go_wp2_with (go_at_call 56; (with_reducible refine (HPt.out _ _ _ _ _ HQ.out).mono ?_); rintro e w3 ⟨rfl, b3⟩)
          go_ret
          exact ⟨by rw [Hck.out, Mf.check_arg (by have := Hn.out; omega) i hil HBk.out.symm]; rfl, chainM (chainM HB2.out HI.out.1) b3⟩
        · go_wp2_with (go_at_call 56; (with_reducible refine (HPt.out _ _ _ _ _ HQ.out).mono ?_); rintro e w3 ⟨rfl, b3⟩)
          go_roundw
          case rel => exact ⟨i + 1, by omega, by go_num, chainM HI.out.1 b3, fun j hj hji => by
            rcases Nat.lt_or_ge j i with h1 | h1
            · exact HI.out.2 j hj h1
            · obtain rfl : j = i := by omega
              exact HBk.out.symm⟩
          case measure => simp [intOf]; omega
      · have d3 : decide ((i : Int) < (k : Int)) = false := decide_eq_false (by omega)
        have d4 : decide (i < k) = false := decide_eq_false hlt
        have HA : Hid (∀ j (hj : j < m.parts.length), m.parts[j].ok = true) := fun j hj => HI.out.2 j hj (by have := Hk.out; omega)
        have HB3 : Hid (Below w2.heap.size w2 wr) := HI.out.1
        obtain ⟨wo, hwo⟩ : ∃ wo : World, wo = wr := ⟨_, rfl⟩
        subst hwo
        clear HI
        go_wp2
        clear d3 d4
        go_loopw [5, 6] (fun x _ wr => ∃ i : Nat, i ≤ k ∧ x = .int .i64 (i : Int) ∧ Hid (Below w2.heap.size w2 wr ∧ ∀ q j (hj : j < m.parts.length) (hq : q < j), j < i → m.parts[q].f ≠ m.parts[j].f)) (fun x _ _ => k - (intOf x).toNat)
        case atStart => exact ⟨0, by omega, rfl, HB3.out, fun q j hj hq hji => by omega⟩
        case round =>
          obtain ⟨i, hi, rfl, HI⟩ := hrel
          by_cases hlt : i < k
          · have hil : i < m.parts.length := by have := Hk.out; omega
            obtain ⟨b, off, rfl, hc⟩ := pt_cells H2.out i hil
            have HC := Lib.hid hc
            clear hc
            have d3 : decide ((i : Int) < (k : Int)) = true := decide_eq_true (by omega)
            have d4 : decide (i < k) = true := decide_eq_true hlt
            have y8 : IntKind.i64.wrap ((i : Int) + 1) = (i : Int) + 1 := IntWalk.i64_in _ (by omega)
            obtain ⟨wp, hwp⟩ : ∃ x : World, x = wr := ⟨_, rfl⟩
            subst hwp
            go_wp2
            go_loopw [6] (fun x wr => ∃ q : Nat, q ≤ i ∧ x = .int .i64 (q : Int) ∧ Hid (Below w2.heap.size w2 wr ∧ ∀ a (ha : a < m.parts.length), a < q → m.parts[a].f ≠ m.parts[i].f)) (fun x _ => i - (intOf x).toNat)
            case atStart => exact ⟨0, by omega, rfl, HI.out.1, fun a _ ha => by omega⟩
            case round =>
              obtain ⟨q, hq, rfl, HQ⟩ := hrel
              by_cases hqi : q < i
              · have hqk : q < k := by omega
                have hql : q < m.parts.length := by have := Hk.out; omega
                have d5 : decide ((q : Int) < (i : Int)) = true := decide_eq_true (by omega)
                have d6 : decide (q < i) = true := decide_eq_true hqi
                have y9 : IntKind.i64.wrap ((q : Int) + 1) = (q : Int) + 1 := IntWalk.i64_in _ (by omega)
                have v0 := (HC.out _ HQ.out.1 q hql).1
                have x0 := (HC.out _ HQ.out.1 i hil).1
                obtain ⟨zq, hzq⟩ : ∃ x, x = m.parts[q].f := ⟨_, rfl⟩
                obtain ⟨zi, hzi⟩ : ∃ x, x = m.parts[i].f := ⟨_, rfl⟩
                rw [← hzq] at v0
                rw [← hzi] at x0
                by_cases he : zq = zi
                · have HT : Hid (ck = 7) := by
                    have := Mf.check_twice (by have := Hn.out; omega) HA.out q i hil hqi (by rw [← hzq, ← hzi]; exact he)
                    exact Hck.out.trans this
                  clear hzq hzi
                  subst he
                  go_wp2
                  go_region
                  go_wp2
                  go_ret
                  exact ⟨by rw [HT.out]; rfl, chainM HB2.out HQ.out.1.drew⟩
                · have e0 : (zq == zi) = false := by simpa using he
                  have HN : Hid (m.parts[q].f ≠ m.parts[i].f) := by rw [← hzq, ← hzi]; exact he
                  clear hzq hzi
                  go_wp2
                  go_region
                  go_wp2
                  go_roundw
                  case rel => exact ⟨q + 1, by omega, by go_num, HQ.out.1.drew, fun a ha haq => by
                    rcases Nat.lt_or_ge a q with h1 | h1
                    · exact HQ.out.2 a ha h1
                    · obtain rfl : a = q := by omega
                      exact HN.out⟩
                  case measure => simp [intOf]; omega
              · have d5 : decide ((q : Int) < (i : Int)) = false := decide_eq_false (by omega)
                have d6 : decide (q < i) = false := decide_eq_false hqi
                go_wp2
                go_roundw
                case rel => exact ⟨i + 1, by omega, by go_num, HQ.out.1, fun a j hj haj hji => by
                  rcases Nat.lt_or_ge j i with h1 | h1
                  · exact HI.out.2 a j hj haj h1
                  · obtain rfl : j = i := by omega
                    exact HQ.out.2 a (by omega) (by omega)⟩
                case measure => simp [intOf]; omega
          · have d3 : decide ((i : Int) < (k : Int)) = false := decide_eq_false (by omega)
            have d4 : decide (i < k) = false := decide_eq_false hlt
            have H0 : Hid (ck = 0) := Hck.out.trans (Mf.check_fine (by have := Hn.out; omega) HA.out fun q j hj hq => HI.out.2 q j hj hq (by have := Hk.out; omega))
            go_wp2
            go_ret
            exact ⟨by rw [H0.out]; rfl, chainM HB2.out HI.out.1⟩
end Go.Proofs.Ytnmcohdlogepdaa
end
section
set_option linter.unusedVariables false
set_option linter.unusedSimpArgs false
namespace Go.Proofs.Ytnmcohdlogepdaa
open Go.RowKit
theorem mwithin_gives (n a b : Int) (v : Bool) (hv : (decide (a ≤ n) && decide (n ≤ b)) = v) (w : World) : Calls Try.prog 54 #[.int .i64 n, .int .i64 a, .int .i64 b] w fun e w' => e = .returned (.bool v) ∧ w = w' := by
  by_cases h : a ≤ n
  · have d : decide (a ≤ n) = true := decide_eq_true h
    rw [d, Bool.true_and] at hv
    subst hv
    go_enter Try.func54, Try.ntmps54
    go_wp2
    go_ret
    exact ⟨rfl, rfl⟩
  · have d : decide (a ≤ n) = false := decide_eq_false h
    rw [d, Bool.false_and] at hv
    subst hv
    go_enter Try.func54, Try.ntmps54
    go_wp2
    go_ret
    exact ⟨rfl, rfl⟩
set_option maxRecDepth 100000 in
set_option maxHeartbeats 4000000 in
theorem mmay_any (f s o : Int) (w : World) : Calls Try.prog 42 #[.agg #[.int .i64 f, .int .i64 s, .int .i64 o]] w fun e w' => e = .returned (.bool (Pt.ok ⟨f, s, o⟩)) ∧ Below w.heap.size w w' := by
  have hb : Below w.heap.size w (w.alloc (.cells #[.int .i64 f, .int .i64 s, .int .i64 o] 27)) := (Below.refl _ _).alloc (Nat.le_refl _) _
  unfold Pt.ok
  obtain ⟨b1, h1⟩ : ∃ b, (decide (1 ≤ f) && decide (f ≤ 65535)) = b := ⟨_, rfl⟩
  obtain ⟨b2, h2⟩ : ∃ b, (decide (1 ≤ s) && decide (s ≤ 262144)) = b := ⟨_, rfl⟩
  obtain ⟨b3, h3⟩ : ∃ b, (decide (1 ≤ o) && decide (o ≤ 2147483647)) = b := ⟨_, rfl⟩
  have H1 : Hid (∀ W, Calls Try.prog 54 #[.int .i64 f, .int .i64 1, .int .i64 65535] W fun e w' => e = .returned (.bool b1) ∧ W = w') := fun W => mwithin_gives f 1 65535 b1 h1 W
  have H2 : Hid (∀ W, Calls Try.prog 54 #[.int .i64 s, .int .i64 1, .int .i64 262144] W fun e w' => e = .returned (.bool b2) ∧ W = w') := fun W => mwithin_gives s 1 262144 b2 h2 W
  have H3 : Hid (∀ W, Calls Try.prog 54 #[.int .i64 o, .int .i64 1, .int .i64 2147483647] W fun e w' => e = .returned (.bool b3) ∧ W = w') := fun W => mwithin_gives o 1 2147483647 b3 h3 W
  have HB := Lib.hid hb
  simp only [h1, h2, h3]
  clear h1 h2 h3 hb
  cases b1
  · go_enter Try.func42, Try.ntmps42
    go_wp2_with (first
      | (go_at_call 54; (with_reducible refine (H1.out _).mono ?_); rintro e w1 ⟨rfl, rfl⟩))
    go_ret
    exact ⟨rfl, HB.out⟩
  cases b2
  · go_enter Try.func42, Try.ntmps42
    go_wp2_with (first
      | (go_at_call 54; (with_reducible refine (H1.out _).mono ?_); rintro e w1 ⟨rfl, rfl⟩)
      | (go_at_call 54; (with_reducible refine (H2.out _).mono ?_); rintro e w1 ⟨rfl, rfl⟩))
    go_ret
    exact ⟨rfl, HB.out⟩
  · go_enter Try.func42, Try.ntmps42
    go_wp2_with (first
      | (go_at_call 54; (with_reducible refine (H1.out _).mono ?_); rintro e w1 ⟨rfl, rfl⟩)
      | (go_at_call 54; (with_reducible refine (H2.out _).mono ?_); rintro e w1 ⟨rfl, rfl⟩)
      | (go_at_call 54; (with_reducible refine (H3.out _).mono ?_); rintro e w1 ⟨rfl, rfl⟩))
    go_ret
    exact ⟨by simp, HB.out⟩
def Mf.snaps (m : Mf) : List Pt := if m.snap = Pt.z then [] else [m.snap]
theorem Mf.parts_eq (m : Mf) : m.parts = m.segs ++ m.snaps := by
  unfold Mf.parts Mf.snaps
  split
  · rw [List.append_nil]
  · rfl
theorem Mf.snaps_len (m : Mf) : m.snaps.length ≤ 1 := by
  unfold Mf.snaps
  split <;> simp
theorem man_at0 (w : World) (A : Option Addr) (m c : Nat) (f s o : Int) : (w.alloc (.cells #[.slice A m c, .int .i64 f, .int .i64 s, .int .i64 o] 29)).cell? ⟨w.heap.size, 0, none⟩ = some (.slice A m c) ∧ (w.alloc (.cells #[.slice A m c, .int .i64 f, .int .i64 s, .int .i64 o] 29)).cell? ⟨w.heap.size, 1, none⟩ = some (.int .i64 f) ∧ (w.alloc (.cells #[.slice A m c, .int .i64 f, .int .i64 s, .int .i64 o] 29)).cell? ⟨w.heap.size, 2, none⟩ = some (.int .i64 s) ∧ (w.alloc (.cells #[.slice A m c, .int .i64 f, .int .i64 s, .int .i64 o] 29)).cell? ⟨w.heap.size, 3, none⟩ = some (.int .i64 o) := man_at w _ A m c f s o (Below.refl _ _)
set_option maxRecDepth 100000 in
set_option maxHeartbeats 4000000 in
theorem msnaps_any (m : Mf) (A : Option Addr) (c : Nat) (w : World) : Calls Try.prog 30 #[mfV m A c] w fun e w' => ∃ B d, e = .returned (.slice B m.snaps.length d) ∧ Hid (PtL w' w'.heap.size B m.snaps) ∧ Below w.heap.size w w' ∧ ∀ ad, B = some ad → w.heap.size ≤ ad.block := by
  obtain ⟨sg, sn⟩ := m
  obtain ⟨f, s, o⟩ := sn
  obtain ⟨n, hn⟩ : ∃ n, n = sg.length := ⟨_, rfl⟩
  have HB : Hid (Below w.heap.size w (w.alloc (.cells #[.slice A n c, .int .i64 f, .int .i64 s, .int .i64 o] 29))) := (Below.refl _ _).alloc (Nat.le_refl _) _
  obtain ⟨bz, hbz⟩ : ∃ b, decide (f = 0 ∧ s = 0 ∧ o = 0) = b := ⟨_, rfl⟩
  have e27 := fun W => Try.partEqZ f s o bz W hbz
  have z27 := fun W => Try.partBuild0 W
  have a29 := fun w' => Try.manAgg w'
  have s29 := fun w' => Try.manSize w'
  have a27 := fun w' => Try.partAgg w'
  have s27 := fun w' => Try.partSize w'
  unfold mfV
  simp only
  rw [← hn]
  have Hn := Lib.hid hn
  have HBz := Lib.hid hbz
  clear hn hbz
  go_enter Try.func30, Try.ntmps30
  go_upto_region 1 with (fail)
  have hk := man_at0 w A n c f s o
  obtain ⟨w1, hw1⟩ : ∃ w1, w1 = w.alloc (.cells #[.slice A n c, .int .i64 f, .int .i64 s, .int .i64 o] 29) := ⟨_, rfl⟩
  rw [← hw1] at HB hk
  rw [← hw1]
  obtain ⟨ga, hga⟩ : ∃ g, g = w.heap.size := ⟨_, rfl⟩
  rw [← hga] at hk
  rw [← hga]
  clear hw1 hga
  obtain ⟨k0, k1, k2, k3⟩ := hk
  cases bz with
  | true =>
    go_wp2
    go_ret
    have hz : f = 0 ∧ s = 0 ∧ o = 0 := of_decide_eq_true HBz.out
    obtain ⟨rfl, rfl, rfl⟩ := hz
    exact ⟨none, 0, rfl, (fun h => absurd h (by simp [Mf.snaps, Pt.z])), HB.out, fun _ e => nomatch e⟩
  | false =>
    go_wp2
    go_ret
    have hz : ¬ (f = 0 ∧ s = 0 ∧ o = 0) := of_decide_eq_false HBz.out
    have hne : (⟨f, s, o⟩ : Pt) ≠ Pt.z := fun e => hz (by simpa [Pt.z] using e)
    have hp : (⟨sg, ⟨f, s, o⟩⟩ : Mf).snaps = [⟨f, s, o⟩] := by unfold Mf.snaps; rw [if_neg hne]
    rw [hp]
    exact ⟨_, _, rfl, pt_new w1 ⟨f, s, o⟩, HB.out.alloc HB.out.size _, fun ad e => by injection e with e; rw [← e]; exact HB.out.size⟩
end Go.Proofs.Ytnmcohdlogepdaa
end
section
set_option linter.unusedVariables false
set_option linter.unusedSimpArgs false
namespace Go.Proofs.Ytnmcohdlogepdaa
open Go.RowKit
set_option maxHeartbeats 1000000 in
theorem num_at (B g : Nat) (st : St) (w : World) (h0 : CurB B w g st) (hB : B ≤ w.heap.size) :
    Calls Try.prog 39 #[.pointer (some ⟨g, 0, none⟩)] w fun e w' => e = .returned (.int .i64 ((stepNum st).2 : Int)) ∧ CurB B w' g (stepNum st).1 ∧ Only w w' g := by
  have h := h0.cur hB
  have hb := bad_any g _ w h
  have hfl := fail_any g _ w h
  rcases st with _ | L
  · have h' := Lib.hid h0
    clear h h0
    go_enter Try.func39, Try.ntmps39
    go_wp2_with (go_at_call 20; refine hb.mono ?_; rintro e w' ⟨rfl, rfl⟩)
    go_ret
    exact ⟨rfl, h'.out, only_refl _ _⟩
  · obtain ⟨A, c, hg, hr, hc, hl⟩ := h0
    have hgt := get_any L A c _ w (hr.more hB) hl
    have hc0 : w.cell? ⟨g, 0, none⟩ = some (.slice A L.length c) := (blk_cell hg 0).1
    have hf0 : w.frozen? ⟨g, 0, none⟩ = false := (blk_cell hg 0).2
    have HG := Lib.hid hg
    clear hg h
    rcases hs : getL L with _ | ⟨n, k⟩
    · rw [hs] at hgt
      have HS : Hid (stepNum (some L) = (none, 0)) := by show _ = _; simp [stepNum, hs]
      clear hs
      go_enter Try.func39, Try.ntmps39
      go_wp2_with (first
        | (go_at_call 20; refine hb.mono ?_; rintro e w' ⟨rfl, rfl⟩)
        | (go_at_call 53; refine hgt.mono ?_; rintro e w' ⟨rfl, rfl⟩)
        | (go_at_call 40; refine hfl.mono ?_; rintro e w' ⟨rfl, hcur, honly, hsz⟩))
      go_ret
      rw [HS.out]
      exact ⟨rfl, hcur, honly⟩
    · rw [hs] at hgt
      have hkl := (getL_some L n k hs).2.2.1
      have HS : Hid (stepNum (some L) = (some (L.drop k), n)) := by show _ = _; simp [stepNum, hs]
      clear hs
      go_enter Try.func39, Try.ntmps39
      go_wp2_with (first
        | (go_at_call 20; refine hb.mono ?_; rintro e w' ⟨rfl, rfl⟩)
        | (go_at_call 53; refine hgt.mono ?_; rintro e w' ⟨rfl, rfl⟩))
      all_goals
        go_ret
        rw [HS.out]
        exact ⟨rfl, cur_cutB HG hr hc hl hkl _ _ (fun hx => by first | rfl | (exact absurd hx (by assumption))) (fun hx => by first | rfl | (exact absurd (by assumption) hx)) (by omega), only_set _ _ _ _⟩
end Go.Proofs.Ytnmcohdlogepdaa
end
