/- Lemmas under the proofs of this place: WalLifeR, WalWeakB. No statement is proved here. -/
import Derived.Test.YtghenhacndaelaaBu39
import Derived.Deep.Slices
import Derived.BigQuiet
import Derived.Deep.RegionHeldLaw
set_option linter.unusedSimpArgs false
set_option linter.unusedVariables false
set_option maxRecDepth 100000
set_option maxHeartbeats 16000000
namespace Go.Proofs.Ytghenhacndaelaa
section
open Go.RowKit
def NewsOk (w : World) (P : Nat → Prop) (news : List Value) (l : List (List UInt8)) : Prop := news.length = l.length ∧ ∀ i (hi : i < l.length), ∃ dA dc, news[i]? = some (.slice dA l[i].length dc) ∧ RB w w.heap.size dA l[i] ∧ (0 < l[i].length → ∀ ad, dA = some ad → P ad.block)
section
variable {w w' : World} {P : Nat → Prop} {A : Option Addr} {l : List (List UInt8)} {news : List Value}
theorem NewsOk.up (h : NewsOk w P news l) (hb : Below w.heap.size w w') : NewsOk w' P news l := ⟨h.1, fun i hi => by
  obtain ⟨dA, dc, h1, h2, h3⟩ := h.2 i hi
  exact ⟨dA, dc, h1, (h2.below hb).more hb.size, h3⟩⟩
theorem NewsOk.snoc {t : List UInt8} {T : Option Addr} {n c : Nat} (h : NewsOk w P news l) (hn : n = t.length) (hr : RB w w.heap.size T t) (hT : 0 < t.length → ∀ ad, T = some ad → P ad.block) : NewsOk w P (news ++ [.slice T n c]) (l ++ [t]) := by
  refine ⟨by simp [h.1], fun i hi => ?_⟩
  by_cases h1 : i < l.length
  · obtain ⟨dA, dc, k1, k2, k3⟩ := h.2 i h1
    refine ⟨dA, dc, ?_, ?_, ?_⟩
    · rw [List.getElem?_append_left (by rw [h.1]; exact h1), k1, List.getElem_append_left h1]
    · rw [List.getElem_append_left h1]; exact k2
    · rw [List.getElem_append_left h1]; exact k3
  · have e : i = l.length := by simp at hi; omega
    subst e
    refine ⟨T, c, ?_, ?_, ?_⟩
    · rw [List.getElem?_append_right (by rw [h.1]; exact Nat.le_refl _), h.1, Nat.sub_self, List.getElem_append_right (by omega), hn]
      simp
    · rw [List.getElem_append_right (by omega)]
      simpa using hr
    · rw [List.getElem_append_right (by omega)]
      simpa using hT
theorem BLw.reads (h : BLw w P A l) : ∃ xs : List Value, Reads w w.heap.size 1 A l.length xs ∧ NewsOk w P xs l ∧ ∀ u ∈ xs, u.oneCell' = true := by
  by_cases h0 : 0 < l.length
  · obtain ⟨b, off, e, hlt, hp, hc⟩ := h h0
    have each : ∀ i, i < l.length → ∃ z : Option Addr × Nat, RB w w.heap.size z.1 (l.getD i []) ∧ (0 < (l.getD i []).length → ∀ ad, z.1 = some ad → P ad.block) ∧ w.cell? ⟨b, off + i, none⟩ = some (.slice z.1 (l.getD i []).length z.2) := fun i hi => by
      obtain ⟨dA, dc, h1, h2, h3⟩ := hc i hi
      have e1 : l.getD i [] = l[i] := by simp [List.getD, hi]
      exact ⟨(dA, dc), by rw [e1]; exact h1, by rw [e1]; exact h2, by rw [e1]; exact h3⟩
    obtain ⟨z, hz⟩ := Deep.choose_lt each
    refine ⟨(List.range l.length).map fun i => .slice (z i).1 (l.getD i []).length (z i).2, ⟨by simp, fun _ => ⟨_, e, hlt, fun j u hu => ?_⟩⟩, ⟨by simp, fun i hi => ?_⟩, fun u hu => ?_⟩
    · rw [List.getElem?_map] at hu
      by_cases hj : j < l.length
      · rw [List.getElem?_range hj] at hu
        simp only [Option.map_some, Option.some.injEq] at hu
        have ea : (⟨b, off, none⟩ : Addr).add j = ⟨b, off + j, none⟩ := by unfold Addr.add; split <;> simp_all
        rw [ea, ← hu]
        exact (hz j hj).2.2
      · rw [List.getElem?_eq_none (by simp; omega)] at hu
        cases hu
    · obtain ⟨h1, h2, h3⟩ := hz i hi
      have e1 : l.getD i [] = l[i] := by simp [List.getD, hi]
      rw [e1] at h1 h2
      refine ⟨(z i).1, (z i).2, ?_, h1, h2⟩
      rw [List.getElem?_map, List.getElem?_range hi]
      simp only [Option.map_some, e1]
    · obtain ⟨i, _, rfl⟩ := List.mem_map.1 hu
      rfl
  · have e : l = [] := List.eq_nil_of_length_eq_zero (by omega)
    subst e
    exact ⟨[], ⟨rfl, fun h1 => absurd h1 (by simp)⟩, ⟨rfl, fun i hi => absurd hi (by simp)⟩, fun u hu => by cases hu⟩
theorem BLw.row {base n c : Nat} (h : w.ownsRow base 38 1 (.slice A n c) n news) (hk : NewsOk w P news l) (hn : n = l.length) (hP : ∀ k, base ≤ k → k < w.heap.size → P k) : BLw w P A l := fun h0 => by
  subst hn
  rcases h.2 with ⟨_, h1⟩ | ⟨k, cap, cur, he, h2, h3, _⟩
  · omega
  · simp only [Value.slice.injEq] at he
    obtain ⟨rfl, -, rfl⟩ := he
    have hc := World.ownsRow.cells h (g := k) rfl
    have ea : ∀ j, (⟨k, 0, none⟩ : Addr).add j = ⟨k, j, none⟩ := fun j => by unfold Addr.add; split <;> simp_all
    have hlt : k < w.heap.size := Blk.lt (t := 38) h3
    refine ⟨k, 0, rfl, hlt, hP k h2 hlt, fun i hi => ?_⟩
    obtain ⟨dA, dc, g1, g2, g3⟩ := hk.2 i hi
    have c0 := hc _ _ g1
    rw [ea] at c0
    rw [Nat.zero_add]
    exact ⟨dA, dc, g2, g3, c0⟩
end
end
section
open Go.RowKit
theorem rbytesw_yes (l : List (List UInt8)) (n : Nat) (A A' : Option Addr) (c c' : Nat) (w : World) (P P' : Nat → Prop) (hn : n = l.length) (hn1 : n ≤ 1000000) (h : BLw w P A l) (h' : BLw w P' A' l) : Calls Try.prog 9 #[.slice A n c, .slice A' n c'] w fun e w' => e = .returned (.bool true) ∧ Below w.heap.size w w' := by
  have H1 := Lib.hid h
  have H2 := Lib.hid h'
  have Hn := Lib.hid hn
  clear h h' hn
  go_enter Try.func9, Try.ntmps9
  go_wp2
  go_loopw [5] (fun x wr => ∃ i : Nat, i ≤ n ∧ x = .int .i64 (i : Int) ∧ Hid (Below w.heap.size w wr)) (fun x _ => n - (intOf x).toNat)
  case atStart => exact ⟨0, by omega, rfl, Below.refl _ _⟩
  case round =>
    obtain ⟨i, hi, rfl, HB⟩ := hrel
    by_cases hlt : i < n
    · have hi2 : i < l.length := by have := Hn.out; omega
      obtain ⟨b1, o1, rfl, -, -, hc1⟩ := (H1.out.up HB.out) (by omega)
      obtain ⟨b2, o2, rfl, -, -, hc2⟩ := (H2.out.up HB.out) (by omega)
      obtain ⟨dA, dc, r1, -, k1⟩ := hc1 i hi2
      obtain ⟨dB, dd, r2, -, k2⟩ := hc2 i hi2
      obtain ⟨L, hL⟩ : ∃ L, L = l[i] := ⟨_, rfl⟩
      obtain ⟨m, hm⟩ : ∃ m, m = l[i].length := ⟨_, rfl⟩
      rw [← hm] at k1 k2
      rw [← hL] at r1 r2
      have hm2 : m = L.length := by rw [hm, hL]
      have s1 : ∀ j, (convert 38 9 (.slice dA m dc)).run Try.prog (wr.drewN j) = .ok (.string ⟨L.toArray⟩) (wr.drewN j) := fun j => aw_str (r1.drewN j) m dc hm2
      have s2 : ∀ j, (convert 38 9 (.slice dB m dd)).run Try.prog (wr.drewN j) = .ok (.string ⟨L.toArray⟩) (wr.drewN j) := fun j => aw_str (r2.drewN j) m dd hm2
      have t1 : (convert 38 9 (.slice dA m dc)).run Try.prog wr = .ok (.string ⟨L.toArray⟩) wr := aw_str r1 m dc hm2
      have t2 : (convert 38 9 (.slice dB m dd)).run Try.prog wr = .ok (.string ⟨L.toArray⟩) wr := aw_str r2 m dd hm2
      have d0 : decide ((i : Int) < (n : Int)) = true := decide_eq_true (by omega)
      have d1 : decide (i < n) = true := decide_eq_true hlt
      have y7 : IntKind.i64.wrap ((i : Int) + 1) = (i : Int) + 1 := IntWalk.i64_in _ (by omega)
      clear hc1 hc2 r1 r2 hL hm hm2
      go_wp2
      have u1 : (convert 38 9 (.slice dA m dc)).run Try.prog wr.drew = .ok (.string ⟨L.toArray⟩) wr.drew := s1 1
      have u2 : (convert 38 9 (.slice dB m dd)).run Try.prog wr.drew = .ok (.string ⟨L.toArray⟩) wr.drew := s2 1
      clear s1 s2 t1 t2
      go_region_held_law (fun w' => (convert 38 9 (.slice dA m dc)).run Try.prog w' = .ok (.string ⟨L.toArray⟩) w' ∧ (convert 38 9 (.slice dB m dd)).run Try.prog w' = .ok (.string ⟨L.toArray⟩) w' ∧ w'.cell? ⟨b1, o1 + i, none⟩ = some (.slice dA m dc) ∧ w'.cell? ⟨b2, o2 + i, none⟩ = some (.slice dB m dd)) (exact ⟨u1, u2, k1, k2⟩) (fail)
      go_wp2
      go_roundw
      case rel => exact ⟨i + 1, by omega, by go_num, HB.out.drew⟩
      case measure => simp [intOf]; omega
    · have d0 : decide ((i : Int) < (n : Int)) = false := decide_eq_false (by omega)
      have d1 : decide (i < n) = false := decide_eq_false hlt
      go_wp2
      go_ret
      exact ⟨rfl, HB.out⟩
theorem tsw_to (A : Option Addr) (n c h : Nat) (j : Int) (hj : j = (h : Int)) (h1 : h ≤ c) (W : World) :
    (Instr.sliceAt 28 (.slice A n c) none (some (.int .i64 j)) none).run Try.prog W = .ok (.slice A h c) W := by
  subst hj
  have hu : Try.prog.underlying 28 = some (.slice (Try.prog.elem 28)) := by kernel_rfl
  have he : Try.prog.elem 28 = 38 := by kernel_rfl
  have hsz : (sizeOf 38).run Try.prog W = .ok 1 W := by kernel_rfl
  have e : (h : Int).toNat = h := by omega
  have e0 : (if c = 0 then A else A.map (·.add (0 * 1))) = A := by
    split
    · rfl
    · cases A with
      | none => rfl
      | some a => simp [Addr.add]
  rw [run_sliceAt_slice _ _ _ _ _ _ hu, run_slice_h _ _ _ _ _ hu .i64 (h : Int) (by omega) (by omega), he, hsz]
  simp only [Result.andThen_ok, e, sliced, Nat.sub_zero, e0]
theorem beginsw_any (l x : List (List UInt8)) (n m : Nat) (A A' : Option Addr) (c c' : Nat) (w : World) (P P' : Nat → Prop) (hm : m = l.length) (hn : n = l.length + x.length) (hn1 : n ≤ 1000000) (hc : n ≤ c) (h : BLw w P A (l ++ x)) (h' : BLw w P' A' l) :
    Calls Try.prog 8 #[.slice A n c, .slice A' m c'] w fun e w' => e = .returned (.bool true) ∧ Below w.heap.size w w' := by
  have HBy : Hid (Calls Try.prog 9 #[.slice A m c, .slice A' m c'] w fun e w' => e = .returned (.bool true) ∧ Below w.heap.size w w') := rbytesw_yes l m A A' c c' w P P' hm (by omega) h.front h'
  have s1 := fun W => tsw_to A n c m (m : Int) rfl (by omega) W
  have d0 : decide ((m : Int) ≤ (n : Int)) = true := decide_eq_true (by omega)
  have d1 : decide (m ≤ n) = true := decide_eq_true (by omega)
  clear hm hn hn1 hc h h'
  go_enter Try.func8, Try.ntmps8
  go_wp2_with (go_at_call 9; (with_reducible refine HBy.out.mono ?_); rintro e w1 ⟨rfl, hb1⟩)
  go_ret
  exact ⟨rfl, hb1⟩
end
end Go.Proofs.Ytghenhacndaelaa
