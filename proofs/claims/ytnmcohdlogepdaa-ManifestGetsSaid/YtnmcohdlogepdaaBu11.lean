/- Lemmas under the proofs of this place: ManRSame, CurAt, Steps. No statement is proved here. -/
import Derived.Test.YtnmcohdlogepdaaBu08
import Derived.Test.YtnmcohdlogepdaaBu03
section
set_option linter.unusedVariables false
set_option linter.unusedSimpArgs false
namespace Go.Proofs.Ytnmcohdlogepdaa
open Go.RowKit
theorem Try.partNeS (a b c : Int) (w : World) : Sem.run Try.prog (binOp .neq 27 (.agg #[.int .i64 a, .int .i64 b, .int .i64 c]) (.agg #[.int .i64 a, .int .i64 b, .int .i64 c])) w = .ok (.bool false) w := by
  simp [go_sem]
set_option maxRecDepth 100000 in
set_option maxHeartbeats 4000000 in
theorem rmsame_yes (m : Mf) (A A' : Option Addr) (c c' : Nat) (w : World) (h : MfAt w m A c) (h' : MfAt w m A' c') : Calls Try.prog 9 #[mfV m A c, mfV m A' c'] w fun e w' => e = .returned (.bool true) ∧ Below w.heap.size w w' := by
  obtain ⟨sg, sn⟩ := m
  obtain ⟨f, s, o⟩ := sn
  obtain ⟨n, hn⟩ : ∃ n, n = sg.length := ⟨_, rfl⟩
  have hn1 : n ≤ 1000 := by rw [hn]; exact h.few
  unfold mfV
  simp only
  rw [← hn]
  have H1 := Lib.hid h.segs
  have H2 := Lib.hid h'.segs
  have Hn := Lib.hid hn
  have a29 := fun w' => Try.manAgg w'
  have s29 := fun w' => Try.manSize w'
  have a27 := fun w' => Try.partAgg w'
  have s27 := fun w' => Try.partSize w'
  have e27 := fun a b c w' => Try.partNeS a b c w'
  clear h h' hn
  go_enter Try.func9, Try.ntmps9
  go_wp2
  have hb0 : Below w.heap.size w ((w.alloc (.cells #[.slice A n c, .int .i64 f, .int .i64 s, .int .i64 o] 29)).alloc (.cells #[.slice A' n c', .int .i64 f, .int .i64 s, .int .i64 o] 29)) := ((Below.refl _ _).alloc (Nat.le_refl _) _).alloc ((Below.refl _ _).alloc (Nat.le_refl _) _).size _
  have k0 := (man_at w _ A n c f s o ((Below.refl _ _).alloc (Nat.le_refl _) (.cells #[.slice A' n c', .int .i64 f, .int .i64 s, .int .i64 o] 29))).1
  have k1 : ((w.alloc (.cells #[.slice A n c, .int .i64 f, .int .i64 s, .int .i64 o] 29)).alloc (.cells #[.slice A' n c', .int .i64 f, .int .i64 s, .int .i64 o] 29)).cell? ⟨w.heap.size + 1, 0, none⟩ = some (.slice A' n c') := by
    have := (man_at (w.alloc (.cells #[.slice A n c, .int .i64 f, .int .i64 s, .int .i64 o] 29)) _ A' n c' f s o (Below.refl _ _)).1
    rwa [show (w.alloc (.cells #[.slice A n c, .int .i64 f, .int .i64 s, .int .i64 o] 29)).heap.size = w.heap.size + 1 from by simp] at this
  have HK : Hid (Below w.heap.size w ((w.alloc (.cells #[.slice A n c, .int .i64 f, .int .i64 s, .int .i64 o] 29)).alloc (.cells #[.slice A' n c', .int .i64 f, .int .i64 s, .int .i64 o] 29)) ∧ _ ∧ _) := ⟨hb0, k0, k1⟩
  clear hb0 k0 k1
  go_loopw [5] (fun x wr => ∃ i : Nat, i ≤ n ∧ x = .int .i64 (i : Int) ∧ Hid (Below w.heap.size w wr ∧ wr.cell? ⟨w.heap.size, 0, none⟩ = some (.slice A n c) ∧ wr.cell? ⟨w.heap.size + 1, 0, none⟩ = some (.slice A' n c'))) (fun x _ => n - (intOf x).toNat)
  case atStart => exact ⟨0, by omega, rfl, HK.out⟩
  case round =>
    clear HK
    obtain ⟨i, hi, rfl, HB⟩ := hrel
    have m0 := HB.out.2.1
    have m1 := HB.out.2.2
    by_cases hlt : i < n
    · have hi2 : i < sg.length := by have := Hn.out; omega
      obtain ⟨b1, o1, rfl, hb1, hc1⟩ := H1.out (by omega)
      obtain ⟨b2, o2, rfl, hb2, hc2⟩ := H2.out (by omega)
      obtain ⟨k0, k1, k2⟩ := hc1 i hi2
      obtain ⟨j0, j1, j2⟩ := hc2 i hi2
      obtain ⟨pf, hpf⟩ : ∃ x, x = sg[i].f := ⟨_, rfl⟩
      obtain ⟨ps, hps⟩ : ∃ x, x = sg[i].s := ⟨_, rfl⟩
      obtain ⟨po, hpo⟩ : ∃ x, x = sg[i].o := ⟨_, rfl⟩
      rw [← hpf] at k0 j0
      rw [← hps] at k1 j1
      rw [← hpo] at k2 j2
      have hbo := HB.out.1
      have v0 : wr.cell? ⟨b1, o1 + i * 3, none⟩ = some (.int .i64 pf) := (hbo.cell (p := ⟨b1, o1 + i * 3, none⟩) hb1).trans k0
      have v1 : wr.cell? ⟨b1, o1 + i * 3 + 1, none⟩ = some (.int .i64 ps) := (hbo.cell (p := ⟨b1, o1 + i * 3 + 1, none⟩) hb1).trans k1
      have v2 : wr.cell? ⟨b1, o1 + i * 3 + 2, none⟩ = some (.int .i64 po) := (hbo.cell (p := ⟨b1, o1 + i * 3 + 2, none⟩) hb1).trans k2
      have x0 : wr.cell? ⟨b2, o2 + i * 3, none⟩ = some (.int .i64 pf) := (hbo.cell (p := ⟨b2, o2 + i * 3, none⟩) hb2).trans j0
      have x1 : wr.cell? ⟨b2, o2 + i * 3 + 1, none⟩ = some (.int .i64 ps) := (hbo.cell (p := ⟨b2, o2 + i * 3 + 1, none⟩) hb2).trans j1
      have x2 : wr.cell? ⟨b2, o2 + i * 3 + 2, none⟩ = some (.int .i64 po) := (hbo.cell (p := ⟨b2, o2 + i * 3 + 2, none⟩) hb2).trans j2
      have d0 : decide ((i : Int) < (n : Int)) = true := decide_eq_true (by omega)
      have d1 : decide (i < n) = true := decide_eq_true hlt
      have y7 : IntKind.i64.wrap ((i : Int) + 1) = (i : Int) + 1 := IntWalk.i64_in _ (by omega)
      clear hc1 hc2 k0 k1 k2 j0 j1 j2 hpf hps hpo hbo hb1 hb2
      go_wp2
      go_region
      go_wp2
      go_roundw
      case rel => exact ⟨i + 1, by omega, by go_num, HB.out.1.drew, HB.out.2⟩
      case measure => simp [intOf]; omega
    · have d0 : decide ((i : Int) < (n : Int)) = false := decide_eq_false (by omega)
      have d1 : decide (i < n) = false := decide_eq_false hlt
      go_wp2
      go_ret
      exact ⟨rfl, HB.out.1⟩
end Go.Proofs.Ytnmcohdlogepdaa
end
section
set_option linter.unusedVariables false
set_option linter.unusedSimpArgs false
namespace Go.Proofs.Ytnmcohdlogepdaa
open Go.RowKit
def CurB (B : Nat) (w : World) (g : Nat) : Option (List UInt8) → Prop
  | none => w.heap[g]? = some (.cells #[.slice none 0 0, .bool true] 65 (0, 0))
  | some L => ∃ A c, w.heap[g]? = some (.cells #[.slice A L.length c, .bool false] 65 (0, 0)) ∧ RB w B A L ∧ L.length ≤ c ∧ L.length ≤ 1048576
theorem CurB.cur {B : Nat} {w : World} {g : Nat} {st : Option (List UInt8)} (h : CurB B w g st) (hB : B ≤ w.heap.size) : Cur w g st := by
  rcases st with _ | L
  · exact h
  · obtain ⟨A, c, h1, h2, h3, h4⟩ := h
    exact ⟨A, c, h1, h2.more hB, h3, h4⟩
theorem Cur.at_ {w : World} {g : Nat} {st : Option (List UInt8)} (h : Cur w g st) : CurB w.heap.size w g st := by
  rcases st with _ | L
  · exact h
  · obtain ⟨A, c, h1, h2, h3, h4⟩ := h
    exact ⟨A, c, h1, h2, h3, h4⟩
theorem CurB.lt {B : Nat} {w : World} {g : Nat} {st : Option (List UInt8)} (h : CurB B w g st) : g < w.heap.size := by
  rcases st with _ | L
  · exact Blk.lt (t := 65) h
  · obtain ⟨A, c, h1, _⟩ := h
    exact Blk.lt (t := 65) h1
theorem CurB.keep {B : Nat} {w w' : World} {g : Nat} {st : Option (List UInt8)} (h : CurB B w g st) (hg : w'.heap[g]? = w.heap[g]?) (hk : ∀ p : Addr, p.block < B → w'.cell? p = w.cell? p) : CurB B w' g st := by
  rcases st with _ | L
  · exact hg.trans h
  · obtain ⟨A, c, h1, h2, h3, h4⟩ := h
    exact ⟨A, c, hg.trans h1, Reads.keep h2 hk, h3, h4⟩
theorem cur_cutB {w : World} {B g : Nat} {A : Option Addr} {L : List UInt8} {c k : Nat} (HG : Hid (w.heap[g]? = some (.cells #[.slice A L.length c, .bool false] 65 (0, 0)))) (hr : RB w B A L) (hc : L.length ≤ c) (hl : L.length ≤ 1048576)
    (hk : k ≤ L.length) (A' : Option Addr) (c' : Nat) (h1 : c = k → A' = A) (h2 : c ≠ k → A' = A.map (·.add k)) (hc' : c' = c - k) :
    CurB B (w.setCell ⟨g, 0, none⟩ (.slice A' (L.length - k) c')) g (some (L.drop k)) := by
  subst hc'
  have hA : A' = if c = k then A else A.map (·.add (k * 1)) := by
    rw [Nat.mul_one]
    by_cases h : c = k
    · rw [if_pos h]; exact h1 h
    · rw [if_neg h]; exact h2 h
  refine ⟨A', c - k, ?_, ?_, by rw [List.length_drop]; omega, by rw [List.length_drop]; omega⟩
  · rw [List.length_drop]
    exact Blk.set_ HG.out 0 (.slice A' (L.length - k) (c - k))
  · rw [hA]
    exact rb_far (rb_cut hr hk hc) HG.out (cur_cells _ _ _ _) _
end Go.Proofs.Ytnmcohdlogepdaa
end
section
set_option linter.unusedVariables false
namespace Go.Proofs.Ytnmcohdlogepdaa
def stepNum : St → St × Nat
  | none => (none, 0)
  | some L => match getL L with
    | some (n, k) => (some (L.drop k), n)
    | none => (none, 0)
def stepText (st : St) : St × List UInt8 :=
  if 262144 < (stepNum st).2 then (none, []) else stepTake (stepNum st).2 (stepNum st).1
end Go.Proofs.Ytnmcohdlogepdaa
end
