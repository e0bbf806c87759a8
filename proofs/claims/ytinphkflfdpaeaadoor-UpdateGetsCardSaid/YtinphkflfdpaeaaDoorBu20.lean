/- Lemmas under the proofs of this place: OpRCheck, OpApp, OpPSmall. No statement is proved here. -/
import Derived.Test.YtinphkflfdpaeaaDoorBu17
import Derived.Test.YtinphkflfdpaeaaDoorBu08
import Derived.Lib.AppendStr
set_option linter.unusedSimpArgs false
set_option linter.unusedVariables false
set_option maxRecDepth 100000
set_option maxHeartbeats 16000000
namespace Go.Proofs.YtinphkflfdpaeaaDoor
section
open Go.RowKit
def Opn.mayB (o : Opn) : Bool :=
  isKind o.kind && (if hasName o.kind = true then nameOk o.name else o.name.isEmpty) && decide (o.text.length ≤ 48) && (hasText o.kind || o.text.isEmpty) && (hasN o.kind || decide (o.n = 0)) && (decide (-2147483647 ≤ o.n) && decide (o.n ≤ 2147483647)) && (hasAt o.kind || o.at_.isEmpty) && (o.at_.isEmpty || decide (o.at_.length = 32)) && !(decide (o.kind = 5) && o.text.isEmpty) && !(decide (o.kind = 6) && o.at_.isEmpty)
def OpAt (w : World) (b : Nat) (k : Int) (t1 t2 : ByteArray) (z : Int) (t3 : ByteArray) : Prop :=
  b < w.heap.size ∧ w.cell? ⟨b, 0, none⟩ = some (.int .i64 k) ∧ w.cell? ⟨b, 1, none⟩ = some (.string t1) ∧ w.cell? ⟨b, 2, none⟩ = some (.string t2) ∧ w.cell? ⟨b, 3, none⟩ = some (.int .i64 z) ∧ w.cell? ⟨b, 4, none⟩ = some (.string t3)
theorem OpAt.up {w w' : World} {b : Nat} {k z : Int} {t1 t2 t3 : ByteArray} (h : OpAt w b k t1 t2 z t3) (hb : Below w.heap.size w w') : OpAt w' b k t1 t2 z t3 :=
  ⟨Nat.lt_of_lt_of_le h.1 hb.size, (hb.cell (p := ⟨b, 0, none⟩) h.1).trans h.2.1, (hb.cell (p := ⟨b, 1, none⟩) h.1).trans h.2.2.1, (hb.cell (p := ⟨b, 2, none⟩) h.1).trans h.2.2.2.1, (hb.cell (p := ⟨b, 3, none⟩) h.1).trans h.2.2.2.2.1, (hb.cell (p := ⟨b, 4, none⟩) h.1).trans h.2.2.2.2.2⟩
theorem OpAt.new (w : World) (k : Int) (t1 t2 : ByteArray) (z : Int) (t3 : ByteArray) : OpAt (w.alloc (.cells #[.int .i64 k, .string t1, .string t2, .int .i64 z, .string t3] 24)) w.heap.size k t1 t2 z t3 := by
  have h := Blk.new w 24 #[.int .i64 k, .string t1, .string t2, .int .i64 z, .string t3]
  exact ⟨by simp, h.cell 0, h.cell 1, h.cell 2, h.cell 3, h.cell 4⟩
theorem rcheck_1 (z : Int) (nm tx a : List UInt8) (t1 t2 t3 : ByteArray) (n2 n3 : Nat) (bo : Bool) (w : World) (e1 : t1.toList = nm) (e2 : t2.toList = tx) (e3 : t3.toList = a) (s2 : t2.size = n2) (s3 : t3.size = n3) (g2 : n2 = tx.length) (g3 : n3 = a.length)
    (HH : Hid (∀ W, Calls Tryd.prog 49 #[.int .i64 1] W fun e w' => e = .returned (.tuple #[.bool true, .bool false, .bool true, .bool false, .bool true]) ∧ Below W.heap.size W w'))
    (HN : Hid (∀ W, Calls Tryd.prog 71 #[.string t1] W fun e w' => e = .returned (.bool bo) ∧ Below W.heap.size W w')) (hbo : bo = nameOk nm) :
    Calls Tryd.prog 44 #[.agg #[.int .i64 1, .string t1, .string t2, .int .i64 z, .string t3]] w fun e w' => e = .returned (.bool (Opn.mayB ⟨1, nm, tx, z, a⟩)) ∧ Below w.heap.size w w' := by
  have hO := Lib.hid (OpAt.new w 1 t1 t2 z t3)
  have hb0 : Below w.heap.size w (w.alloc (.cells #[.int .i64 1, .string t1, .string t2, .int .i64 z, .string t3] 24)) := (Below.refl _ _).alloc (Nat.le_refl _) _
  have hM : Opn.mayB ⟨1, nm, tx, z, a⟩ = (bo && tx.isEmpty && (decide (-2147483647 ≤ z) && decide (z ≤ 2147483647)) && a.isEmpty) := by
    (try rw [hbo]); (try rw [g2]); (try rw [g3])
    rw [Bool.eq_iff_iff]
    cases nm <;> cases tx <;> cases a <;> simp [Opn.mayB, hasName, hasText, hasN, hasAt, isKind] <;> omega
  have HM := Lib.hid hM
  have G2 := Lib.hid g2
  have G3 := Lib.hid g3
  clear hM g2 g3 hbo
  go_enter Tryd.func44, Tryd.ntmps44
  go_wp2_with (first
      | (go_at_call 49; (with_reducible refine (HH.out _).mono ?_); rintro e w1 ⟨rfl, b1⟩; have hO1 := Lib.hid (hO.out.up b1); obtain ⟨l0, c0, c1, c2, c3, c4⟩ := hO1.out)
      | (go_at_call 71; (with_reducible refine (HN.out _).mono ?_); rintro e w2 ⟨rfl, b2⟩; have hO2 := Lib.hid (hO1.out.up b2); obtain ⟨l0', c0', c1', c2', c3', c4'⟩ := hO2.out))
  all_goals go_ret
  all_goals
    refine ⟨?_, by first | exact (hb0.trans (b1.mono hb0.size)).trans (b2.mono (Nat.le_trans hb0.size b1.size)) | exact hb0.trans (b1.mono hb0.size)⟩
    show Ending.returned (Value.bool _) = Ending.returned (Value.bool _)
    have hm := HM.out
    have g2 := G2.out
    have g3 := G3.out
    clear HH hO hb0 HM G2 G3 b1 hO1 c0 c1 c2 c3 c4 l0
    (try clear HN)
    (try clear b2)
    (try clear hO2 c0' c1' c2' c3' c4' l0')
    first | (simp_all; done) | (simp_all; omega) | (rcases tx with _ | ⟨x, tx⟩ <;> rcases a with _ | ⟨y, a⟩ <;> simp_all <;> omega)
theorem rcheck_2 (z : Int) (nm tx a : List UInt8) (t1 t2 t3 : ByteArray) (n2 n3 : Nat) (bo : Bool) (w : World) (e1 : t1.toList = nm) (e2 : t2.toList = tx) (e3 : t3.toList = a) (s2 : t2.size = n2) (s3 : t3.size = n3) (g2 : n2 = tx.length) (g3 : n3 = a.length)
    (HH : Hid (∀ W, Calls Tryd.prog 49 #[.int .i64 2] W fun e w' => e = .returned (.tuple #[.bool true, .bool true, .bool false, .bool false, .bool true]) ∧ Below W.heap.size W w'))
    (HN : Hid (∀ W, Calls Tryd.prog 71 #[.string t1] W fun e w' => e = .returned (.bool bo) ∧ Below W.heap.size W w')) (hbo : bo = nameOk nm) :
    Calls Tryd.prog 44 #[.agg #[.int .i64 2, .string t1, .string t2, .int .i64 z, .string t3]] w fun e w' => e = .returned (.bool (Opn.mayB ⟨2, nm, tx, z, a⟩)) ∧ Below w.heap.size w w' := by
  have hO := Lib.hid (OpAt.new w 2 t1 t2 z t3)
  have hb0 : Below w.heap.size w (w.alloc (.cells #[.int .i64 2, .string t1, .string t2, .int .i64 z, .string t3] 24)) := (Below.refl _ _).alloc (Nat.le_refl _) _
  have hM : Opn.mayB ⟨2, nm, tx, z, a⟩ = (bo && decide (n2 ≤ 48) && decide (z = 0) && a.isEmpty) := by
    (try rw [hbo]); (try rw [g2]); (try rw [g3])
    rw [Bool.eq_iff_iff]
    cases nm <;> cases tx <;> cases a <;> simp [Opn.mayB, hasName, hasText, hasN, hasAt, isKind] <;> omega
  have HM := Lib.hid hM
  have G2 := Lib.hid g2
  have G3 := Lib.hid g3
  clear hM g2 g3 hbo
  go_enter Tryd.func44, Tryd.ntmps44
  go_wp2_with (first
      | (go_at_call 49; (with_reducible refine (HH.out _).mono ?_); rintro e w1 ⟨rfl, b1⟩; have hO1 := Lib.hid (hO.out.up b1); obtain ⟨l0, c0, c1, c2, c3, c4⟩ := hO1.out)
      | (go_at_call 71; (with_reducible refine (HN.out _).mono ?_); rintro e w2 ⟨rfl, b2⟩; have hO2 := Lib.hid (hO1.out.up b2); obtain ⟨l0', c0', c1', c2', c3', c4'⟩ := hO2.out))
  all_goals go_ret
  all_goals
    refine ⟨?_, by first | exact (hb0.trans (b1.mono hb0.size)).trans (b2.mono (Nat.le_trans hb0.size b1.size)) | exact hb0.trans (b1.mono hb0.size)⟩
    show Ending.returned (Value.bool _) = Ending.returned (Value.bool _)
    have hm := HM.out
    have g2 := G2.out
    have g3 := G3.out
    clear HH hO hb0 HM G2 G3 b1 hO1 c0 c1 c2 c3 c4 l0
    (try clear HN)
    (try clear b2)
    (try clear hO2 c0' c1' c2' c3' c4' l0')
    first | (simp_all; done) | (simp_all; omega) | (rcases tx with _ | ⟨x, tx⟩ <;> rcases a with _ | ⟨y, a⟩ <;> simp_all <;> omega)
theorem rcheck_3 (z : Int) (nm tx a : List UInt8) (t1 t2 t3 : ByteArray) (n2 n3 : Nat) (bo : Bool) (w : World) (e1 : t1.toList = nm) (e2 : t2.toList = tx) (e3 : t3.toList = a) (s2 : t2.size = n2) (s3 : t3.size = n3) (g2 : n2 = tx.length) (g3 : n3 = a.length)
    (HH : Hid (∀ W, Calls Tryd.prog 49 #[.int .i64 3] W fun e w' => e = .returned (.tuple #[.bool true, .bool true, .bool false, .bool false, .bool true]) ∧ Below W.heap.size W w'))
    (HN : Hid (∀ W, Calls Tryd.prog 71 #[.string t1] W fun e w' => e = .returned (.bool bo) ∧ Below W.heap.size W w')) (hbo : bo = nameOk nm) :
    Calls Tryd.prog 44 #[.agg #[.int .i64 3, .string t1, .string t2, .int .i64 z, .string t3]] w fun e w' => e = .returned (.bool (Opn.mayB ⟨3, nm, tx, z, a⟩)) ∧ Below w.heap.size w w' := by
  have hO := Lib.hid (OpAt.new w 3 t1 t2 z t3)
  have hb0 : Below w.heap.size w (w.alloc (.cells #[.int .i64 3, .string t1, .string t2, .int .i64 z, .string t3] 24)) := (Below.refl _ _).alloc (Nat.le_refl _) _
  have hM : Opn.mayB ⟨3, nm, tx, z, a⟩ = (bo && decide (n2 ≤ 48) && decide (z = 0) && a.isEmpty) := by
    (try rw [hbo]); (try rw [g2]); (try rw [g3])
    rw [Bool.eq_iff_iff]
    cases nm <;> cases tx <;> cases a <;> simp [Opn.mayB, hasName, hasText, hasN, hasAt, isKind] <;> omega
  have HM := Lib.hid hM
  have G2 := Lib.hid g2
  have G3 := Lib.hid g3
  clear hM g2 g3 hbo
  go_enter Tryd.func44, Tryd.ntmps44
  go_wp2_with (first
      | (go_at_call 49; (with_reducible refine (HH.out _).mono ?_); rintro e w1 ⟨rfl, b1⟩; have hO1 := Lib.hid (hO.out.up b1); obtain ⟨l0, c0, c1, c2, c3, c4⟩ := hO1.out)
      | (go_at_call 71; (with_reducible refine (HN.out _).mono ?_); rintro e w2 ⟨rfl, b2⟩; have hO2 := Lib.hid (hO1.out.up b2); obtain ⟨l0', c0', c1', c2', c3', c4'⟩ := hO2.out))
  all_goals go_ret
  all_goals
    refine ⟨?_, by first | exact (hb0.trans (b1.mono hb0.size)).trans (b2.mono (Nat.le_trans hb0.size b1.size)) | exact hb0.trans (b1.mono hb0.size)⟩
    show Ending.returned (Value.bool _) = Ending.returned (Value.bool _)
    have hm := HM.out
    have g2 := G2.out
    have g3 := G3.out
    clear HH hO hb0 HM G2 G3 b1 hO1 c0 c1 c2 c3 c4 l0
    (try clear HN)
    (try clear b2)
    (try clear hO2 c0' c1' c2' c3' c4' l0')
    first | (simp_all; done) | (simp_all; omega) | (rcases tx with _ | ⟨x, tx⟩ <;> rcases a with _ | ⟨y, a⟩ <;> simp_all <;> omega)
theorem rcheck_4 (z : Int) (nm tx a : List UInt8) (t1 t2 t3 : ByteArray) (n2 n3 : Nat) (bo : Bool) (w : World) (e1 : t1.toList = nm) (e2 : t2.toList = tx) (e3 : t3.toList = a) (s2 : t2.size = n2) (s3 : t3.size = n3) (g2 : n2 = tx.length) (g3 : n3 = a.length)
    (HH : Hid (∀ W, Calls Tryd.prog 49 #[.int .i64 4] W fun e w' => e = .returned (.tuple #[.bool true, .bool true, .bool false, .bool false, .bool true]) ∧ Below W.heap.size W w'))
    (HN : Hid (∀ W, Calls Tryd.prog 71 #[.string t1] W fun e w' => e = .returned (.bool bo) ∧ Below W.heap.size W w')) (hbo : bo = nameOk nm) :
    Calls Tryd.prog 44 #[.agg #[.int .i64 4, .string t1, .string t2, .int .i64 z, .string t3]] w fun e w' => e = .returned (.bool (Opn.mayB ⟨4, nm, tx, z, a⟩)) ∧ Below w.heap.size w w' := by
  have hO := Lib.hid (OpAt.new w 4 t1 t2 z t3)
  have hb0 : Below w.heap.size w (w.alloc (.cells #[.int .i64 4, .string t1, .string t2, .int .i64 z, .string t3] 24)) := (Below.refl _ _).alloc (Nat.le_refl _) _
  have hM : Opn.mayB ⟨4, nm, tx, z, a⟩ = (bo && decide (n2 ≤ 48) && decide (z = 0) && a.isEmpty) := by
    (try rw [hbo]); (try rw [g2]); (try rw [g3])
    rw [Bool.eq_iff_iff]
    cases nm <;> cases tx <;> cases a <;> simp [Opn.mayB, hasName, hasText, hasN, hasAt, isKind] <;> omega
  have HM := Lib.hid hM
  have G2 := Lib.hid g2
  have G3 := Lib.hid g3
  clear hM g2 g3 hbo
  go_enter Tryd.func44, Tryd.ntmps44
  go_wp2_with (first
      | (go_at_call 49; (with_reducible refine (HH.out _).mono ?_); rintro e w1 ⟨rfl, b1⟩; have hO1 := Lib.hid (hO.out.up b1); obtain ⟨l0, c0, c1, c2, c3, c4⟩ := hO1.out)
      | (go_at_call 71; (with_reducible refine (HN.out _).mono ?_); rintro e w2 ⟨rfl, b2⟩; have hO2 := Lib.hid (hO1.out.up b2); obtain ⟨l0', c0', c1', c2', c3', c4'⟩ := hO2.out))
  all_goals go_ret
  all_goals
    refine ⟨?_, by first | exact (hb0.trans (b1.mono hb0.size)).trans (b2.mono (Nat.le_trans hb0.size b1.size)) | exact hb0.trans (b1.mono hb0.size)⟩
    show Ending.returned (Value.bool _) = Ending.returned (Value.bool _)
    have hm := HM.out
    have g2 := G2.out
    have g3 := G3.out
    clear HH hO hb0 HM G2 G3 b1 hO1 c0 c1 c2 c3 c4 l0
    (try clear HN)
    (try clear b2)
    (try clear hO2 c0' c1' c2' c3' c4' l0')
    first | (simp_all; done) | (simp_all; omega) | (rcases tx with _ | ⟨x, tx⟩ <;> rcases a with _ | ⟨y, a⟩ <;> simp_all <;> omega)
theorem rcheck_5 (z : Int) (nm tx a : List UInt8) (t1 t2 t3 : ByteArray) (n2 n3 : Nat) (bo : Bool) (w : World) (e1 : t1.toList = nm) (e2 : t2.toList = tx) (e3 : t3.toList = a) (s2 : t2.size = n2) (s3 : t3.size = n3) (g2 : n2 = tx.length) (g3 : n3 = a.length)
    (HH : Hid (∀ W, Calls Tryd.prog 49 #[.int .i64 5] W fun e w' => e = .returned (.tuple #[.bool true, .bool true, .bool false, .bool true, .bool true]) ∧ Below W.heap.size W w'))
    (HN : Hid (∀ W, Calls Tryd.prog 71 #[.string t1] W fun e w' => e = .returned (.bool bo) ∧ Below W.heap.size W w')) (hbo : bo = nameOk nm) :
    Calls Tryd.prog 44 #[.agg #[.int .i64 5, .string t1, .string t2, .int .i64 z, .string t3]] w fun e w' => e = .returned (.bool (Opn.mayB ⟨5, nm, tx, z, a⟩)) ∧ Below w.heap.size w w' := by
  have hO := Lib.hid (OpAt.new w 5 t1 t2 z t3)
  have hb0 : Below w.heap.size w (w.alloc (.cells #[.int .i64 5, .string t1, .string t2, .int .i64 z, .string t3] 24)) := (Below.refl _ _).alloc (Nat.le_refl _) _
  have hM : Opn.mayB ⟨5, nm, tx, z, a⟩ = (bo && decide (n2 ≤ 48) && decide (z = 0) && (a.isEmpty || decide (n3 = 32)) && !tx.isEmpty) := by
    (try rw [hbo]); (try rw [g2]); (try rw [g3])
    rw [Bool.eq_iff_iff]
    cases nm <;> cases tx <;> cases a <;> simp [Opn.mayB, hasName, hasText, hasN, hasAt, isKind] <;> omega
  have HM := Lib.hid hM
  have G2 := Lib.hid g2
  have G3 := Lib.hid g3
  clear hM g2 g3 hbo
  go_enter Tryd.func44, Tryd.ntmps44
  go_wp2_with (first
      | (go_at_call 49; (with_reducible refine (HH.out _).mono ?_); rintro e w1 ⟨rfl, b1⟩; have hO1 := Lib.hid (hO.out.up b1); obtain ⟨l0, c0, c1, c2, c3, c4⟩ := hO1.out)
      | (go_at_call 71; (with_reducible refine (HN.out _).mono ?_); rintro e w2 ⟨rfl, b2⟩; have hO2 := Lib.hid (hO1.out.up b2); obtain ⟨l0', c0', c1', c2', c3', c4'⟩ := hO2.out))
  all_goals go_ret
  all_goals
    refine ⟨?_, by first | exact (hb0.trans (b1.mono hb0.size)).trans (b2.mono (Nat.le_trans hb0.size b1.size)) | exact hb0.trans (b1.mono hb0.size)⟩
    show Ending.returned (Value.bool _) = Ending.returned (Value.bool _)
    have hm := HM.out
    have g2 := G2.out
    have g3 := G3.out
    clear HH hO hb0 HM G2 G3 b1 hO1 c0 c1 c2 c3 c4 l0
    (try clear HN)
    (try clear b2)
    (try clear hO2 c0' c1' c2' c3' c4' l0')
    first | (simp_all; done) | (simp_all; omega) | (rcases tx with _ | ⟨x, tx⟩ <;> rcases a with _ | ⟨y, a⟩ <;> simp_all <;> omega)
theorem rcheck_6 (z : Int) (nm tx a : List UInt8) (t1 t2 t3 : ByteArray) (n2 n3 : Nat) (bo : Bool) (w : World) (e1 : t1.toList = nm) (e2 : t2.toList = tx) (e3 : t3.toList = a) (s2 : t2.size = n2) (s3 : t3.size = n3) (g2 : n2 = tx.length) (g3 : n3 = a.length)
    (HH : Hid (∀ W, Calls Tryd.prog 49 #[.int .i64 6] W fun e w' => e = .returned (.tuple #[.bool true, .bool false, .bool false, .bool true, .bool true]) ∧ Below W.heap.size W w'))
    (HN : Hid (∀ W, Calls Tryd.prog 71 #[.string t1] W fun e w' => e = .returned (.bool bo) ∧ Below W.heap.size W w')) (hbo : bo = nameOk nm) :
    Calls Tryd.prog 44 #[.agg #[.int .i64 6, .string t1, .string t2, .int .i64 z, .string t3]] w fun e w' => e = .returned (.bool (Opn.mayB ⟨6, nm, tx, z, a⟩)) ∧ Below w.heap.size w w' := by
  have hO := Lib.hid (OpAt.new w 6 t1 t2 z t3)
  have hb0 : Below w.heap.size w (w.alloc (.cells #[.int .i64 6, .string t1, .string t2, .int .i64 z, .string t3] 24)) := (Below.refl _ _).alloc (Nat.le_refl _) _
  have hM : Opn.mayB ⟨6, nm, tx, z, a⟩ = (bo && tx.isEmpty && decide (z = 0) && decide (n3 = 32)) := by
    (try rw [hbo]); (try rw [g2]); (try rw [g3])
    rw [Bool.eq_iff_iff]
    cases nm <;> cases tx <;> cases a <;> simp [Opn.mayB, hasName, hasText, hasN, hasAt, isKind] <;> omega
  have HM := Lib.hid hM
  have G2 := Lib.hid g2
  have G3 := Lib.hid g3
  clear hM g2 g3 hbo
  go_enter Tryd.func44, Tryd.ntmps44
  go_wp2_with (first
      | (go_at_call 49; (with_reducible refine (HH.out _).mono ?_); rintro e w1 ⟨rfl, b1⟩; have hO1 := Lib.hid (hO.out.up b1); obtain ⟨l0, c0, c1, c2, c3, c4⟩ := hO1.out)
      | (go_at_call 71; (with_reducible refine (HN.out _).mono ?_); rintro e w2 ⟨rfl, b2⟩; have hO2 := Lib.hid (hO1.out.up b2); obtain ⟨l0', c0', c1', c2', c3', c4'⟩ := hO2.out))
  all_goals go_ret
  all_goals
    refine ⟨?_, by first | exact (hb0.trans (b1.mono hb0.size)).trans (b2.mono (Nat.le_trans hb0.size b1.size)) | exact hb0.trans (b1.mono hb0.size)⟩
    show Ending.returned (Value.bool _) = Ending.returned (Value.bool _)
    have hm := HM.out
    have g2 := G2.out
    have g3 := G3.out
    clear HH hO hb0 HM G2 G3 b1 hO1 c0 c1 c2 c3 c4 l0
    (try clear HN)
    (try clear b2)
    (try clear hO2 c0' c1' c2' c3' c4' l0')
    first | (simp_all; done) | (simp_all; omega) | (rcases tx with _ | ⟨x, tx⟩ <;> rcases a with _ | ⟨y, a⟩ <;> simp_all <;> omega)
theorem rcheck_7 (z : Int) (nm tx a : List UInt8) (t1 t2 t3 : ByteArray) (n2 n3 : Nat) (bo : Bool) (w : World) (e1 : t1.toList = nm) (e2 : t2.toList = tx) (e3 : t3.toList = a) (s2 : t2.size = n2) (s3 : t3.size = n3) (g2 : n2 = tx.length) (g3 : n3 = a.length)
    (HH : Hid (∀ W, Calls Tryd.prog 49 #[.int .i64 7] W fun e w' => e = .returned (.tuple #[.bool false, .bool false, .bool false, .bool false, .bool true]) ∧ Below W.heap.size W w'))
    (HN : Hid (∀ W, Calls Tryd.prog 71 #[.string t1] W fun e w' => e = .returned (.bool bo) ∧ Below W.heap.size W w')) (hbo : bo = nameOk nm) :
    Calls Tryd.prog 44 #[.agg #[.int .i64 7, .string t1, .string t2, .int .i64 z, .string t3]] w fun e w' => e = .returned (.bool (Opn.mayB ⟨7, nm, tx, z, a⟩)) ∧ Below w.heap.size w w' := by
  have hO := Lib.hid (OpAt.new w 7 t1 t2 z t3)
  have hb0 : Below w.heap.size w (w.alloc (.cells #[.int .i64 7, .string t1, .string t2, .int .i64 z, .string t3] 24)) := (Below.refl _ _).alloc (Nat.le_refl _) _
  have hM : Opn.mayB ⟨7, nm, tx, z, a⟩ = (nm.isEmpty && tx.isEmpty && decide (z = 0) && a.isEmpty) := by
    (try rw [hbo]); (try rw [g2]); (try rw [g3])
    rw [Bool.eq_iff_iff]
    cases nm <;> cases tx <;> cases a <;> simp [Opn.mayB, hasName, hasText, hasN, hasAt, isKind] <;> omega
  have HM := Lib.hid hM
  have G2 := Lib.hid g2
  have G3 := Lib.hid g3
  clear hM g2 g3 hbo
  go_enter Tryd.func44, Tryd.ntmps44
  go_wp2_with (first
      | (go_at_call 49; (with_reducible refine (HH.out _).mono ?_); rintro e w1 ⟨rfl, b1⟩; have hO1 := Lib.hid (hO.out.up b1); obtain ⟨l0, c0, c1, c2, c3, c4⟩ := hO1.out))
  all_goals go_ret
  all_goals
    refine ⟨?_, by first | exact (hb0.trans (b1.mono hb0.size)).trans (b2.mono (Nat.le_trans hb0.size b1.size)) | exact hb0.trans (b1.mono hb0.size)⟩
    show Ending.returned (Value.bool _) = Ending.returned (Value.bool _)
    have hm := HM.out
    have g2 := G2.out
    have g3 := G3.out
    clear HH hO hb0 HM G2 G3 b1 hO1 c0 c1 c2 c3 c4 l0
    (try clear HN)
    (try clear b2)
    (try clear hO2 c0' c1' c2' c3' c4' l0')
    first | (simp_all; done) | (simp_all; omega) | (rcases tx with _ | ⟨x, tx⟩ <;> rcases a with _ | ⟨y, a⟩ <;> simp_all <;> omega)
end
section
open Go.RowKit
def PutSt (w0 W : World) (A : Option Addr) (q c : Nat) (X : List UInt8) : Prop := q = X.length ∧ W.ownsRow w0.heap.size 5 1 (.slice A q c) q (cells X) ∧ Below w0.heap.size w0 W
theorem PutSt.up {w0 W W' : World} {A : Option Addr} {q c : Nat} {X : List UInt8} (h : PutSt w0 W A q c X) (hb : Below W.heap.size W W') : PutSt w0 W' A q c X :=
  ⟨h.1, own_kept h.2.1 hb, h.2.2.trans (hb.mono h.2.2.size)⟩
def GivesApp (w0 : World) (X : List UInt8) (e : Ending) (w' : World) : Prop := ∃ A q c, e = .returned (.slice A q c) ∧ PutSt w0 w' A q c X
theorem str_cells (L : List UInt8) : Lib.strCells (text L) = cells L := rfl
theorem append_str {ops : Array Oper} {rest : List Oper} {o : Oper} {a : Act} {Q : Exit → Act → World → Prop} (hgd : o.guard = none) (s x : Operand)
    (ho : o.op = .call { callee := .builtin .append, args := #[s, x], argTypes := #[29, 9] })
    {w0 wr : World} {A : Option Addr} {q c : Nat} {X L : List UInt8} (hs : a.eval s = .slice A q c) (hS : PutSt w0 wr A q c X) (hx : a.eval x = .string (text L)) (hlen : X.length + L.length ≤ 1048576)
    (h : ∀ A' q' c' w1, Hid (PutSt w0 w1 A' q' c' (X ++ L)) → wpList Tryd.prog ops Q rest (a.put o.dst (.slice A' q' c')) w1) :
    wpList Tryd.prog ops Q (o :: rest) a wr := by
  obtain ⟨i0, hi0, hz0, hz1, hz2⟩ := info_parts Tryd.info5
  obtain ⟨hq, hown, hb⟩ := hS
  have hsz : (text L).size = L.length := text_size L
  refine Lib.wpList_append_own_string wr hgd s x 29 9 ho w0.heap.size 5 i0 Tryd.underlying29 Tryd.underlying9 hi0 hz0 hz1 hz2 _ q (cells X) hs hown (text L) hx (by unfold maxLen; omega) (by omega) hb.size fun v' w' ho' hg _ => ?_
  obtain ⟨A', c', rfl⟩ := own_form ho'
  rw [str_cells, ← cells_append] at ho'
  exact h A' _ c' w' ⟨by rw [List.length_append, hq, hsz], ho', hb.grown hg hb.size fun j hj => (hown.lt j hj).1⟩
theorem rb_farO {W W' : World} {A : Option Addr} {L : List UInt8} (h : RB W W.heap.size A L) {v : Value} (hz : W.heap.size ≤ W'.heap.size) (f : ∀ p u, W.cell? p = some u → v.ownBlock ≠ some p.block → W'.cell? p = some u) (hA : ∀ ad, A = some ad → v.ownBlock ≠ some ad.block) : RB W' W'.heap.size A L := by
  refine ⟨h.1, fun h0 => ?_⟩
  obtain ⟨ad, e, hlt, hc⟩ := h.2 h0
  refine ⟨ad, e, Nat.lt_of_lt_of_le hlt hz, fun j u hu => f _ _ (hc j u hu) (by rw [block_of_add]; exact hA ad e)⟩
theorem own_newO {w : World} {base c : Nat} {A : Option Addr} {L : List UInt8} (h : Own w base A L c) : ∀ ad, A = some ad → base ≤ ad.block := fun ad e => by
  subst e
  rcases h.2 with ⟨h1, _⟩ | ⟨k, cap, cur, h1, h2, _⟩
  · simp at h1
  · simp only [Value.slice.injEq, Option.some.injEq] at h1
    rw [h1.1]
    exact h2
theorem append_one {ops : Array Oper} {rest : List Oper} {o : Oper} {a : Act} {Q : Exit → Act → World → Prop} (hgd : o.guard = none) (s x : Operand)
    (ho : o.op = .call { callee := .builtin .append, args := #[s, x], argTypes := #[29, 29] })
    {w0 wr : World} {A : Option Addr} {q c : Nat} {X : List UInt8} {z : Int} (b : UInt8) (hs : a.eval s = .slice A q c) (hS : PutSt w0 wr A q c X) (hz : z = (b.toNat : Int)) (hx : a.eval x = .slice (some ⟨wr.heap.size, 0, none⟩) 1 1) (hlen : X.length + 1 ≤ 1048576)
    (h : ∀ A' q' c' w1, Hid (PutSt w0 w1 A' q' c' (X ++ [b])) → Hid (∀ B L, RB wr wr.heap.size B L → (∀ ad, B = some ad → (Value.slice A q c).ownBlock ≠ some ad.block) → RB w1 w1.heap.size B L) → wpList Tryd.prog ops Q rest (a.put o.dst (.slice A' q' c')) w1) :
    wpList Tryd.prog ops Q (o :: rest) a (wr.alloc (.cells #[.int .u8 z] 5)) := by
  subst hz
  have hn : Below wr.heap.size wr (wr.alloc (.cells #[.int .u8 (b.toNat : Int)] 5)) := (Below.refl _ _).alloc (Nat.le_refl _) _
  have h2 := hS.up hn
  have hq := hS.1
  refine append_far hgd s x ho hs h2.2.1 h2.2.2 (Nat.le_refl _) hx (show RB (wr.alloc (.cells (cells [b]).toArray 5)) (wr.heap.size + 1) (some ⟨wr.heap.size, 0, none⟩) [b] from rb_new wr [b]) rfl (by omega) rfl ?_
  intro A' c' w1 o1 b1 z1 f1 a1
  refine h A' _ c' w1 ⟨by rw [List.length_append, hq]; rfl, o1, b1⟩ fun B L hr hB => ?_
  exact rb_farO ((hr.below hn).more hn.size) z1 f1 hB
theorem append_more {ops : Array Oper} {rest : List Oper} {o : Oper} {a : Act} {Q : Exit → Act → World → Prop} (hgd : o.guard = none) (s x : Operand)
    (ho : o.op = .call { callee := .builtin .append, args := #[s, x], argTypes := #[29, 29] })
    {w0 wr : World} {A B : Option Addr} {q c m d B2 : Nat} {X L : List UInt8} (hs : a.eval s = .slice A q c) (hS : PutSt w0 wr A q c X) (hx : a.eval x = .slice B m d) (hr : RB wr B2 B L) (hm : m = L.length) (hlen : X.length + L.length ≤ 1048576)
    (h : ∀ A' q' c' w1, Hid (PutSt w0 w1 A' q' c' (X ++ L)) → wpList Tryd.prog ops Q rest (a.put o.dst (.slice A' q' c')) w1) :
    wpList Tryd.prog ops Q (o :: rest) a wr := by
  have hq := hS.1
  refine append_rb hgd s x ho hs hS.2.1 hS.2.2 (Nat.le_refl _) hx hr hm (by omega) rfl ?_
  intro A' c' w1 o1 b1
  exact h A' _ c' w1 ⟨by rw [List.length_append, hq, hm], o1, b1⟩
end
section
open Go.RowKit
def bitsO (k : Int) : Int := if k = 1 then 5 else if k = 2 then 3 else if k = 3 then 3 else if k = 4 then 3 else if k = 5 then 27 else if k = 6 then 41 else 0
theorem pkind_yes (k : Int) (w : World) (h : 1 ≤ k ∧ k ≤ 7) :
    Calls Tryd.prog 45 #[.int .i64 k] w fun e w' => e = .returned (.tuple #[.string (text (wordO k)), .int .i64 (bitsO k)]) ∧ Below w.heap.size w w' := by
  rcases kind_cases h with rfl | rfl | rfl | rfl | rfl | rfl | rfl
  all_goals
    go_enter Tryd.func45, Tryd.ntmps45
    go_wp2
    go_ret2
    exact ⟨rfl, Below.refl _ _⟩
theorem pkind_no (k : Int) (w : World) (h : ¬ (1 ≤ k ∧ k ≤ 7)) :
    Calls Tryd.prog 45 #[.int .i64 k] w fun e w' => e = .returned (.tuple #[.string (text []), .int .i64 0]) ∧ Below w.heap.size w w' := by
  have q1 : (k == 1) = false := by simp; omega
  have q2 : (k == 2) = false := by simp; omega
  have q3 : (k == 3) = false := by simp; omega
  have q4 : (k == 4) = false := by simp; omega
  have q5 : (k == 5) = false := by simp; omega
  have q6 : (k == 6) = false := by simp; omega
  have q7 : (k == 7) = false := by simp; omega
  clear h
  go_enter Tryd.func45, Tryd.ntmps45
  go_wp2
  go_ret2
  exact ⟨rfl, Below.refl _ _⟩
theorem pinName_any (b : UInt8) (w : World) :
    Calls Tryd.prog 89 #[.int .u8 (b.toNat : Int)] w fun e w' => e = .returned (.bool (nameB b)) ∧ w' = w := by
  obtain ⟨m, hm⟩ : ∃ m, m = b.toNat := ⟨_, rfl⟩
  have hN : nameB b = ((decide (97 ≤ m) && decide (m ≤ 122)) || (decide (48 ≤ m) && decide (m ≤ 57)) || decide (m = 45)) := by rw [hm]; rfl
  have HN := Lib.hid hN
  rw [← hm]
  clear hm hN
  by_cases c1 : 97 ≤ m
  · have e1' : decide ((97 : Int) ≤ (m : Int)) = true := decide_eq_true (by omega)
    by_cases c2 : m ≤ 122
    · have e2 : decide ((m : Int) ≤ 122) = true := decide_eq_true (by omega)
      go_enter Tryd.func89, Tryd.ntmps89
      go_wp2
      go_ret
      exact ⟨by rw [HN.out, decide_eq_true c1, decide_eq_true c2]; rfl, rfl⟩
    · have e2 : decide ((m : Int) ≤ 122) = false := decide_eq_false (by omega)
      have e3' : decide ((48 : Int) ≤ (m : Int)) = true := decide_eq_true (by omega)
      have e4 : decide ((m : Int) ≤ 57) = false := decide_eq_false (by omega)
      have e5 : decide ((m : Int) = 45) = false := decide_eq_false (by omega)
      go_enter Tryd.func89, Tryd.ntmps89
      go_wp2
      go_ret
      exact ⟨by rw [HN.out, decide_eq_false c2, decide_eq_false (show ¬ m ≤ 57 by omega), decide_eq_false (show ¬ m = 45 by omega)]; simp; (try omega), rfl⟩
  · have e1' : decide ((97 : Int) ≤ (m : Int)) = false := decide_eq_false (by omega)
    by_cases c2 : 48 ≤ m
    · have e3' : decide ((48 : Int) ≤ (m : Int)) = true := decide_eq_true (by omega)
      by_cases c3 : m ≤ 57
      · have e4 : decide ((m : Int) ≤ 57) = true := decide_eq_true (by omega)
        go_enter Tryd.func89, Tryd.ntmps89
        go_wp2
        go_ret
        exact ⟨by rw [HN.out, decide_eq_true c2, decide_eq_true c3]; simp, rfl⟩
      · have e4 : decide ((m : Int) ≤ 57) = false := decide_eq_false (by omega)
        have e5 : decide ((m : Int) = 45) = false := decide_eq_false (by omega)
        go_enter Tryd.func89, Tryd.ntmps89
        go_wp2
        go_ret
        exact ⟨by rw [HN.out, decide_eq_false c1, decide_eq_false c3, decide_eq_false (show ¬ m = 45 by omega)]; simp; (try omega), rfl⟩
    · have e3' : decide ((48 : Int) ≤ (m : Int)) = false := decide_eq_false (by omega)
      by_cases c3 : m = 45
      · have e5 : decide ((m : Int) = 45) = true := decide_eq_true (by omega)
        go_enter Tryd.func89, Tryd.ntmps89
        go_wp2
        go_ret
        exact ⟨by rw [HN.out, decide_eq_true c3]; simp, rfl⟩
      · have e5 : decide ((m : Int) = 45) = false := decide_eq_false (by omega)
        go_enter Tryd.func89, Tryd.ntmps89
        go_wp2
        go_ret
        exact ⟨by rw [HN.out, decide_eq_false c1, decide_eq_false c2, decide_eq_false c3]; simp; (try omega), rfl⟩
theorem pName_any (L : List UInt8) (w : World) (hl : L.length ≤ 1000000) :
    Calls Tryd.prog 79 #[.string (text L)] w fun e w' => e = .returned (.bool (nameOk L)) ∧ Below w.heap.size w w' := by
  obtain ⟨t, ht⟩ : ∃ t, t = text L := ⟨_, rfl⟩
  obtain ⟨n, hn⟩ : ∃ n, n = L.length := ⟨_, rfl⟩
  have hts : t.size = n := by rw [ht, hn]; exact text_size L
  have HI : Hid (∀ k, k < n → ∀ V, (Instr.index 9 (.string t) (.int .i64 (k : Int))).run Tryd.prog V = .ok (.int .u8 ((L.getD k 0).toNat : Int)) V) := fun k hk V => by
    rw [ht]; exact index_text L .i64 k V (by omega)
  have HN := Lib.hid hn
  have hn1 : n ≤ 1000000 := by omega
  rw [← ht]
  clear ht hn
  by_cases c1 : n < 1
  · have d1 : decide ((n : Int) < 1) = true := decide_eq_true (by omega)
    go_enter Tryd.func79, Tryd.ntmps79
    go_wp2
    go_ret
    refine ⟨?_, by first | exact Below.refl _ _ | exact (Below.refl _ _).drew⟩
    have h0 : nameOk L = false := by unfold nameOk; rw [← HN.out, decide_eq_false (show ¬ 1 ≤ n by omega)]; rfl
    rw [h0]
    rfl
  · have d1 : decide ((n : Int) < 1) = false := decide_eq_false (by omega)
    by_cases c2 : 12 < n
    · have d2 : decide ((n : Int) > 12) = true := decide_eq_true (by omega)
      have d2' : decide ((12 : Int) < (n : Int)) = true := decide_eq_true (by omega)
      go_enter Tryd.func79, Tryd.ntmps79
      go_wp2
      go_ret
      refine ⟨?_, by first | exact Below.refl _ _ | exact (Below.refl _ _).drew⟩
      have h0 : nameOk L = false := by unfold nameOk; rw [← HN.out, decide_eq_false (show ¬ n ≤ 12 by omega)]; simp
      rw [h0]
      rfl
    · have d2 : decide ((n : Int) > 12) = false := decide_eq_false (by omega)
      have d2' : decide ((12 : Int) < (n : Int)) = false := decide_eq_false (by omega)
      have HC : Hid (1 ≤ n ∧ n ≤ 12) := ⟨by omega, by omega⟩
      clear c1 c2
      go_enter Tryd.func79, Tryd.ntmps79
      go_wp2
      go_loopw [3, 14] (fun _ i wr => ∃ k : Nat, k ≤ n ∧ i = .int .i64 (k : Int) ∧ Hid ((L.take k).all nameB = true) ∧ Hid (Below w.heap.size w wr)) (fun _ i _ => n - (intOf i).toNat)
      case atStart => exact ⟨0, by omega, rfl, rfl, by first | exact Below.refl _ _ | exact (Below.refl _ _).drew⟩
      case round =>
        obtain ⟨k, hk, rfl, HA, HB⟩ := hrel
        by_cases hlt : k < n
        · have d0 : decide ((k : Int) < (n : Int)) = true := decide_eq_true (by omega)
          have d9 : decide (k < n) = true := decide_eq_true hlt
          have hi := HI.out k hlt
          obtain ⟨b, hb⟩ : ∃ b, b = L.getD k 0 := ⟨_, rfl⟩
          rw [← hb] at hi
          have HP : Hid (∀ V, Calls Tryd.prog 89 #[.int .u8 (b.toNat : Int)] V fun e w' => e = .returned (.bool (nameB b)) ∧ w' = V) := fun V => pinName_any b V
          have HS : Hid ((L.take (k + 1)).all nameB = nameB b) := by
            show _ = _
            have hkL : k < L.length := by have := HN.out; omega
            have e : L[k] = b := by rw [hb, List.getD, List.getElem?_eq_getElem hkL]; rfl
            have h0 := HA.out
            rw [List.take_succ_eq_append_getElem hkL, List.all_append, h0, e]
            simp
          have y7 : IntKind.i64.wrap ((k : Int) + 1) = (k : Int) + 1 := IntWalk.i64_in _ (by omega)
          clear hb
          cases hnb : nameB b with
          | false =>
            rw [hnb] at HP
            have hno : nameOk L = false := by
              have h0 := HS.out
              rw [hnb] at h0
              have : L.all nameB = false := by
                rw [← List.take_append_drop (k + 1) L, List.all_append, h0]
                rfl
              simp [nameOk, this]
            go_wp2_with (first
              | (go_at_call 89; (with_reducible refine (HP.out _).mono ?_); rintro e w' ⟨rfl, rfl⟩))
            go_ret
            exact ⟨by rw [hno]; rfl, HB.out⟩
          | true =>
            rw [hnb] at HP
            go_wp2_with (first
              | (go_at_call 89; (with_reducible refine (HP.out _).mono ?_); rintro e w' ⟨rfl, rfl⟩))
            refine ⟨⟨k + 1, by omega, by go_num, by show _ = _; rw [HS.out]; exact hnb, HB.out⟩, ?_⟩
            simp [intOf]; omega
        · have d0 : decide ((k : Int) < (n : Int)) = false := decide_eq_false (by omega)
          have d9 : decide (k < n) = false := decide_eq_false hlt
          have hall : L.all nameB = true := by
            have h0 := HA.out
            rwa [List.take_of_length_le (by have := HN.out; omega)] at h0
          have hN : nameOk L = true := by
            unfold nameOk
            rw [← HN.out, decide_eq_true HC.out.1, decide_eq_true HC.out.2, hall]
            rfl
          clear hall HI
          go_wp2
          go_ret
          exact ⟨by rw [hN]; rfl, HB.out⟩
end
end Go.Proofs.YtinphkflfdpaeaaDoor
