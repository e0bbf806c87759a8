/- Lemmas under the proofs of this place: OpRChk, OpPutM, OpPFits. No statement is proved here. -/
import Derived.Test.YtinphkflfdpaeaaDoorBu20
import Derived.Test.YtinphkflfdpaeaaDoorBu17
import Derived.Test.YtinphkflfdpaeaaDoorBu09
set_option linter.unusedSimpArgs false
set_option linter.unusedVariables false
set_option maxRecDepth 100000
set_option maxHeartbeats 16000000
namespace Go.Proofs.YtinphkflfdpaeaaDoor
section
open Go.RowKit
theorem mayB_iff (o : Opn) : o.mayB = true ↔ o.May := by
  obtain ⟨k, nm, tx, z, a⟩ := o
  constructor
  · intro h
    simp only [Opn.mayB, Bool.and_eq_true, Bool.or_eq_true, Bool.not_eq_true', Bool.and_eq_false_iff, decide_eq_true_eq, decide_eq_false_iff_not, List.isEmpty_iff, isKind] at h
    obtain ⟨⟨⟨⟨⟨⟨⟨⟨⟨h1, h2⟩, h3⟩, h4⟩, h5⟩, h6⟩, h7⟩, h8⟩, h9⟩, h10⟩ := h
    refine ⟨h1, ?_, ⟨h3, fun h => ?_⟩, ⟨fun h => ?_, h6⟩, ⟨fun h => ?_, fun h => ?_⟩, fun h e => ?_, fun h e => ?_⟩
    · split at h2
      · rename_i hk; simp only; rw [if_pos hk]; exact h2
      · rename_i hk; simp only; rw [if_neg hk]; simpa using h2
    · rcases h4 with h4 | h4
      · simp only at h; rw [h] at h4; cases h4
      · exact h4
    · rcases h5 with h5 | h5
      · simp only at h; rw [h] at h5; cases h5
      · exact h5
    · rcases h7 with h7 | h7
      · simp only at h; rw [h] at h7; cases h7
      · exact h7
    · rcases h8 with h8 | h8
      · exact absurd h8 h
      · exact h8
    · simp only at h e
      subst e
      rcases h9 with h9 | h9
      · exact h9 h
      · simp at h9
    · simp only at h e
      subst e
      rcases h10 with h10 | h10
      · exact h10 h
      · simp at h10
  · intro ⟨h1, h2, h3, h4, h5, h6, h7⟩
    simp only at h1 h2 h3 h4 h5 h6 h7
    simp only [Opn.mayB, Bool.and_eq_true, Bool.or_eq_true, Bool.not_eq_true', Bool.and_eq_false_iff, decide_eq_true_eq, decide_eq_false_iff_not, List.isEmpty_iff, isKind]
    refine ⟨⟨⟨⟨⟨⟨⟨⟨⟨h1, ?_⟩, h3.1⟩, ?_⟩, ?_⟩, h4.2⟩, ?_⟩, ?_⟩, ?_⟩, ?_⟩
    · split at h2
      · rename_i hk; rw [if_pos hk]; exact h2
      · rename_i hk; rw [if_neg hk]; simpa using h2
    · cases hk : hasText k with
      | true => exact .inl rfl
      | false => exact .inr (h3.2 hk)
    · cases hk : hasN k with
      | true => exact .inl rfl
      | false => exact .inr (h4.1 hk)
    · cases hk : hasAt k with
      | true => exact .inl rfl
      | false => exact .inr (h5.1 hk)
    · by_cases ha : a = []
      · exact .inl ha
      · exact .inr (h5.2 ha)
    · by_cases hk : k = 5
      · refine .inr ?_
        have := h6 hk
        cases tx with
        | nil => exact absurd rfl this
        | cons x l => rfl
      · exact .inl hk
    · by_cases hk : k = 6
      · refine .inr ?_
        have := h7 hk
        cases a with
        | nil => exact absurd rfl this
        | cons x l => rfl
      · exact .inl hk
theorem rcheck_other (k z : Int) (t1 t2 t3 : ByteArray) (w : World) (HH : Hid (∀ W, Calls Tryd.prog 49 #[.int .i64 k] W fun e w' => e = .returned (.tuple #[.bool false, .bool false, .bool false, .bool false, .bool false]) ∧ Below W.heap.size W w')) :
    Calls Tryd.prog 44 #[.agg #[.int .i64 k, .string t1, .string t2, .int .i64 z, .string t3]] w fun e w' => e = .returned (.bool false) ∧ Below w.heap.size w w' := by
  have hb0 : Below w.heap.size w (w.alloc (.cells #[.int .i64 k, .string t1, .string t2, .int .i64 z, .string t3] 24)) := (Below.refl _ _).alloc (Nat.le_refl _) _
  go_enter Tryd.func44, Tryd.ntmps44
  go_wp2_with (first
    | (go_at_call 49; (with_reducible refine (HH.out _).mono ?_); rintro e w1 ⟨rfl, b1⟩))
  go_ret
  exact ⟨rfl, hb0.trans (b1.mono hb0.size)⟩
theorem refCheck_any (o : Opn) (w : World) (hn : o.name.length ≤ 1000000) :
    Calls Tryd.prog 44 #[opV o] w fun e w' => e = .returned (.bool o.mayB) ∧ Below w.heap.size w w' := by
  obtain ⟨k, nm, tx, z, a⟩ := o
  have HN : Hid (∀ W, Calls Tryd.prog 71 #[.string (text nm)] W fun e w' => e = .returned (.bool (nameOk nm)) ∧ Below W.heap.size W w') := fun W => refName_any nm W hn
  have hk := fun W => refHas_any k W
  by_cases h : 1 ≤ k ∧ k ≤ 7
  · rcases kind_cases h with rfl | rfl | rfl | rfl | rfl | rfl | rfl
    · exact rcheck_1 z nm tx a _ _ _ _ _ _ w (text_toList nm) (text_toList tx) (text_toList a) rfl rfl (text_size tx) (text_size a) hk HN rfl
    · exact rcheck_2 z nm tx a _ _ _ _ _ _ w (text_toList nm) (text_toList tx) (text_toList a) rfl rfl (text_size tx) (text_size a) hk HN rfl
    · exact rcheck_3 z nm tx a _ _ _ _ _ _ w (text_toList nm) (text_toList tx) (text_toList a) rfl rfl (text_size tx) (text_size a) hk HN rfl
    · exact rcheck_4 z nm tx a _ _ _ _ _ _ w (text_toList nm) (text_toList tx) (text_toList a) rfl rfl (text_size tx) (text_size a) hk HN rfl
    · exact rcheck_5 z nm tx a _ _ _ _ _ _ w (text_toList nm) (text_toList tx) (text_toList a) rfl rfl (text_size tx) (text_size a) hk HN rfl
    · exact rcheck_6 z nm tx a _ _ _ _ _ _ w (text_toList nm) (text_toList tx) (text_toList a) rfl rfl (text_size tx) (text_size a) hk HN rfl
    · exact rcheck_7 z nm tx a _ _ _ _ _ _ w (text_toList nm) (text_toList tx) (text_toList a) rfl rfl (text_size tx) (text_size a) hk HN rfl
  · have e : Opn.mayB ⟨k, nm, tx, z, a⟩ = false := by
      have : isKind k = false := by
        unfold isKind
        by_cases h1 : 1 ≤ k
        · rw [decide_eq_false (show ¬ k ≤ 7 by omega)]; simp
        · rw [decide_eq_false h1]; rfl
      simp [Opn.mayB, this]
    rw [e]
    have e2 : hasV k = .tuple #[.bool false, .bool false, .bool false, .bool false, .bool false] := by
      unfold hasV hasName hasText hasN hasAt isKind
      rw [decide_eq_false (show ¬ k = 1 by omega)]
      by_cases h1 : 1 ≤ k
      · rw [decide_eq_false (show ¬ k ≤ 6 by omega), decide_eq_false (show ¬ k ≤ 5 by omega), decide_eq_false (show ¬ k ≤ 7 by omega)]
        simp
      · rw [decide_eq_false (show ¬ 1 ≤ k by omega), decide_eq_false (show ¬ 2 ≤ k by omega), decide_eq_false (show ¬ 5 ≤ k by omega)]
        simp
    rw [e2] at hk
    exact rcheck_other k z _ _ _ w hk
end
section
open Go.RowKit
theorem Tryd.opAgg (w : World) : (isAgg 24).run Tryd.prog w = .ok true w := by kernel_rfl
theorem Tryd.opSize (w : World) : (sizeOf 24).run Tryd.prog w = .ok 5 w := by kernel_rfl
theorem textL_le (l : List UInt8) (h : l.length ≤ 48) : (textL l).length ≤ 50 := by
  rw [textL_length (by omega)]; omega
theorem put_gives {w W : World} {o : Obj} {A : Option Addr} {q c : Nat} {X : List UInt8} {e : Ending} (he : e = .returned (.tuple #[.slice A q c, .int .i64 0])) (h : PutSt (w.alloc o) W A q c X) : GivesBytes X w e W := by
  obtain ⟨hq, ho, hb⟩ := h
  subst hq
  have hb0 : Below w.heap.size w (w.alloc o) := (Below.refl _ _).alloc (Nat.le_refl _) _
  refine ⟨A, c, he, ⟨ho.1, ?_⟩, hb0.trans (hb.mono hb0.size)⟩
  rcases ho.2 with h0 | ⟨g, cap, cur, h1, h2, h3⟩
  · exact .inl h0
  · exact .inr ⟨g, cap, cur, h1, Nat.le_trans hb0.size h2, h3⟩
end
section
open Go.RowKit
theorem pnameFits_yes (L : List UInt8) (hs m : Int) (w : World) (hl : L.length ≤ 1000000) (hm : bits .and .i64 hs 1 = m) (h0 : m ≠ 0) :
    Calls Tryd.prog 58 #[.string (text L), .int .i64 hs] w fun e w' => e = .returned (.bool (nameOk L)) ∧ Below w.heap.size w w' := by
  have HP : Hid (∀ V, Calls Tryd.prog 79 #[.string (text L)] V fun e w' => e = .returned (.bool (nameOk L)) ∧ Below V.heap.size V w') := fun V => pName_any L V hl
  have d0 : (m == 0) = false := by simpa using h0
  clear h0
  go_enter Tryd.func58, Tryd.ntmps58
  go_wp2_with (first
    | (go_at_call 79; (with_reducible refine (HP.out _).mono ?_); rintro e w1 ⟨rfl, b1⟩))
  go_ret
  exact ⟨rfl, b1⟩
theorem pnameFits_no (L : List UInt8) (hs : Int) (w : World) (hm : bits .and .i64 hs 1 = 0) :
    Calls Tryd.prog 58 #[.string (text L), .int .i64 hs] w fun e w' => e = .returned (.bool L.isEmpty) ∧ Below w.heap.size w w' := by
  obtain ⟨t, ht⟩ : ∃ t, t = text L := ⟨_, rfl⟩
  have htl : t.toList = L := by rw [ht]; exact text_toList L
  rw [← ht]
  clear ht
  go_enter Tryd.func58, Tryd.ntmps58
  go_wp2
  all_goals go_ret
  all_goals exact ⟨by first | rfl | simp_all, by first | exact Below.refl _ _ | exact (Below.refl _ _).drew⟩
def textFit (hs : Int) (L : List UInt8) : Bool := if L.isEmpty = true then decide (bits .and .i64 hs 16 = 0) else (decide (bits .and .i64 hs 2 ≠ 0) && decide (L.length ≤ 48))
theorem ptextFits_any (L : List UInt8) (hs : Int) (w : World) (hl : L.length ≤ 1000000) :
    Calls Tryd.prog 59 #[.string (text L), .int .i64 hs] w fun e w' => e = .returned (.bool (textFit hs L)) ∧ Below w.heap.size w w' := by
  obtain ⟨m, hm⟩ : ∃ m, bits .and .i64 hs 16 = m := ⟨_, rfl⟩
  obtain ⟨m2, hm2⟩ : ∃ m, bits .and .i64 hs 2 = m := ⟨_, rfl⟩
  have HT : Hid (textFit hs L = if L.isEmpty = true then decide (m = 0) else (decide (m2 ≠ 0) && decide (L.length ≤ 48))) := by
    show _ = _
    unfold textFit
    rw [hm, hm2]
  obtain ⟨t, ht⟩ : ∃ t, t = text L := ⟨_, rfl⟩
  obtain ⟨n, hn⟩ : ∃ n, n = L.length := ⟨_, rfl⟩
  have hts : t.size = n := by rw [ht, hn]; exact text_size L
  have htl : t.toList = L := by rw [ht]; exact text_toList L
  have HN := Lib.hid hn
  have hn9 : n ≤ 1000000 := by omega
  rw [← ht]
  rw [← hn] at HT
  clear ht hn hl
  cases hE : L.isEmpty with
  | true =>
    have htl2 : t.toList = [] := by rw [htl]; simpa using hE
    clear htl
    have HT2 : Hid (textFit hs L = (m == 0)) := by
      show _ = _
      rw [HT.out, hE, if_pos rfl, Bool.eq_iff_iff]
      simp
    clear HT hE
    go_enter Tryd.func59, Tryd.ntmps59
    go_wp2
    go_ret
    exact ⟨by rw [HT2.out]; rfl, by first | exact Below.refl _ _ | exact (Below.refl _ _).drew⟩
  | false =>
    have hE9 := hE
    by_cases hq : m2 = 0
    · subst hq
      have HT2 : Hid (textFit hs L = false) := by
        show _ = _
        rw [HT.out, hE, if_neg (by simp), decide_eq_false (show ¬ (0 : Int) ≠ 0 by simp)]
        rfl
      clear HT hE
      go_enter Tryd.func59, Tryd.ntmps59
      go_wp2
      go_ret
      exact ⟨by rw [HT2.out]; rfl, by first | exact Below.refl _ _ | exact (Below.refl _ _).drew⟩
    · have hq2 : (m2 != 0) = true := by simpa using hq
      have HT2 : Hid (textFit hs L = decide ((n : Int) ≤ 48)) := by
        show _ = _
        rw [HT.out, hE, if_neg (by simp), decide_eq_true (show m2 ≠ 0 from hq), Bool.eq_iff_iff]
        simp
        omega
      clear HT hE
      go_enter Tryd.func59, Tryd.ntmps59
      go_wp2
      go_ret
      exact ⟨by rw [HT2.out]; rfl, by first | exact Below.refl _ _ | exact (Below.refl _ _).drew⟩
def numFit (hs z : Int) : Bool := if bits .and .i64 hs 4 = 0 then decide (z = 0) else (decide (-2147483647 ≤ z) && decide (z ≤ 2147483647))
theorem pnumFits_any (z hs : Int) (w : World) :
    Calls Tryd.prog 60 #[.int .i64 z, .int .i64 hs] w fun e w' => e = .returned (.bool (numFit hs z)) ∧ Below w.heap.size w w' := by
  obtain ⟨m, hm⟩ : ∃ m, bits .and .i64 hs 4 = m := ⟨_, rfl⟩
  have HT : Hid (numFit hs z = if m = 0 then decide (z = 0) else (decide (-2147483647 ≤ z) && decide (z ≤ 2147483647))) := by
    show _ = _
    unfold numFit
    rw [hm]
  cases hq : (m == 0) with
  | true =>
    have HT2 : Hid (numFit hs z = (z == 0)) := by
      show _ = _
      rw [HT.out, if_pos (by simpa using hq), Bool.eq_iff_iff]
      simp
    clear HT
    go_enter Tryd.func60, Tryd.ntmps60
    go_wp2
    go_ret
    exact ⟨by rw [HT2.out]; rfl, by first | exact Below.refl _ _ | exact (Below.refl _ _).drew⟩
  | false =>
    have HT2 : Hid (numFit hs z = (decide (-2147483647 ≤ z) && decide (z ≤ 2147483647))) := by
      show _ = _
      rw [HT.out, if_neg (by simpa using hq)]
    clear HT
    by_cases c : -2147483647 ≤ z
    · have d : decide (-2147483647 ≤ z) = true := decide_eq_true c
      go_enter Tryd.func60, Tryd.ntmps60
      go_wp2
      go_ret
      exact ⟨by rw [HT2.out, d]; rfl, by first | exact Below.refl _ _ | exact (Below.refl _ _).drew⟩
    · have d : decide (-2147483647 ≤ z) = false := decide_eq_false c
      go_enter Tryd.func60, Tryd.ntmps60
      go_wp2
      go_ret
      exact ⟨by rw [HT2.out, d]; rfl, by first | exact Below.refl _ _ | exact (Below.refl _ _).drew⟩
def atFit (hs : Int) (L : List UInt8) : Bool := if L.isEmpty = true then decide (bits .and .i64 hs 32 = 0) else (decide (bits .and .i64 hs 8 ≠ 0) && rightB L)
theorem patFits_any (L : List UInt8) (hs : Int) (w : World) :
    Calls Tryd.prog 61 #[.string (text L), .int .i64 hs] w fun e w' => e = .returned (.bool (atFit hs L)) ∧ Below w.heap.size w w' := by
  obtain ⟨m, hm⟩ : ∃ m, bits .and .i64 hs 32 = m := ⟨_, rfl⟩
  obtain ⟨m2, hm2⟩ : ∃ m, bits .and .i64 hs 8 = m := ⟨_, rfl⟩
  have HT : Hid (atFit hs L = if L.isEmpty = true then decide (m = 0) else (decide (m2 ≠ 0) && rightB L)) := by
    show _ = _
    unfold atFit
    rw [hm, hm2]
  have HR : Hid (∀ V, Calls Tryd.prog 57 #[.string (text L)] V fun e w' => e = .returned (.bool (rightB L)) ∧ Below V.heap.size V w') := fun V => idsRight_any L V
  obtain ⟨t, ht⟩ : ∃ t, t = text L := ⟨_, rfl⟩
  have htl : t.toList = L := by rw [ht]; exact text_toList L
  rw [← ht] at HR ⊢
  clear ht
  cases hE : L.isEmpty with
  | true =>
    have htl2 : t.toList = [] := by rw [htl]; simpa using hE
    clear htl
    have HT2 : Hid (atFit hs L = (m == 0)) := by
      show _ = _
      rw [HT.out, hE, if_pos rfl, Bool.eq_iff_iff]
      simp
    clear HT hE
    go_enter Tryd.func61, Tryd.ntmps61
    go_wp2
    go_ret
    exact ⟨by rw [HT2.out]; rfl, by first | exact Below.refl _ _ | exact (Below.refl _ _).drew⟩
  | false =>
    have hE9 := hE
    by_cases hq : m2 = 0
    · subst hq
      have HT2 : Hid (atFit hs L = false) := by
        show _ = _
        rw [HT.out, hE, if_neg (by simp), decide_eq_false (show ¬ (0 : Int) ≠ 0 by simp)]
        rfl
      clear HT hE
      go_enter Tryd.func61, Tryd.ntmps61
      go_wp2
      go_ret
      exact ⟨by rw [HT2.out]; rfl, by first | exact Below.refl _ _ | exact (Below.refl _ _).drew⟩
    · have hq2 : (m2 != 0) = true := by simpa using hq
      have HT2 : Hid (atFit hs L = rightB L) := by
        show _ = _
        rw [HT.out, hE, if_neg (by simp), decide_eq_true (show m2 ≠ 0 from hq)]
        rfl
      clear HT hE
      go_enter Tryd.func61, Tryd.ntmps61
      go_wp2_with (first
        | (go_at_call 57; (with_reducible refine (HR.out _).mono ?_); rintro e w1 ⟨rfl, b1⟩))
      go_ret
      exact ⟨by rw [HT2.out]; rfl, by first | exact b1 | exact b1.drew⟩
end
end Go.Proofs.YtinphkflfdpaeaaDoor
