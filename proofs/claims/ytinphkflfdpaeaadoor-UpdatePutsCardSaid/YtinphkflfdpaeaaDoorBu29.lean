/- Lemmas under the proofs of this place: UpMem, OpPPut, OpPReadM. No statement is proved here. -/
import Derived.Test.YtinphkflfdpaeaaDoorBu26
import Derived.Test.YtinphkflfdpaeaaDoorBu23
import Derived.Test.YtinphkflfdpaeaaDoorBu05
import Derived.Test.YtinphkflfdpaeaaDoorBu24
import Derived.Test.YtinphkflfdpaeaaDoorBu27
import Derived.Test.YtinphkflfdpaeaaDoorBu20
set_option linter.unusedSimpArgs false
set_option linter.unusedVariables false
set_option maxRecDepth 100000
set_option maxHeartbeats 16000000
namespace Go.Proofs.YtinphkflfdpaeaaDoor
section
open Go.RowKit
def updC (a : Int) (A : Option Addr) (n c : Nat) (k : Int) (t1 t2 : ByteArray) (z : Int) (t3 : ByteArray) : Array Value := #[.int .i64 a, .slice A n c, .int .i64 k, .string t1, .string t2, .int .i64 z, .string t3]
def updV (u : Upd) (A : Option Addr) (c : Nat) : Value := .agg (updC u.author A u.preds.length c u.op.kind (text u.op.name) (text u.op.text) u.op.n (text u.op.at_))
theorem Tryd.updAgg (w : World) : (isAgg 26).run Tryd.prog w = .ok true w := by kernel_rfl
theorem Tryd.updSize (w : World) : (sizeOf 26).run Tryd.prog w = .ok 7 w := by kernel_rfl
def UpdC (w : World) (b : Nat) (a : Int) (A : Option Addr) (n c : Nat) (k : Int) (t1 t2 : ByteArray) (z : Int) (t3 : ByteArray) : Prop :=
  b < w.heap.size ∧ w.cell? ⟨b, 0, none⟩ = some (.int .i64 a) ∧ w.cell? ⟨b, 1, none⟩ = some (.slice A n c) ∧ w.cell? ⟨b, 2, none⟩ = some (.int .i64 k) ∧ w.cell? ⟨b, 3, none⟩ = some (.string t1) ∧ w.cell? ⟨b, 4, none⟩ = some (.string t2) ∧ w.cell? ⟨b, 5, none⟩ = some (.int .i64 z) ∧ w.cell? ⟨b, 6, none⟩ = some (.string t3) ∧ (∀ i, w.frozen? ⟨b, i, none⟩ = false)
theorem updC_of {w : World} {b : Nat} {a : Int} {A : Option Addr} {n c : Nat} {k : Int} {t1 t2 : ByteArray} {z : Int} {t3 : ByteArray} (h : Blk w b 26 (updC a A n c k t1 t2 z t3)) : UpdC w b a A n c k t1 t2 z t3 :=
  ⟨h.lt, h.cell 0, h.cell 1, h.cell 2, h.cell 3, h.cell 4, h.cell 5, h.cell 6, h.frozen⟩
theorem eq_op2 (k z k' z' : Int) (t1 t2 t3 t1' t2' t3' : ByteArray) (W : World) (b : Bool) (hb : b = (decide (k = k') && decide (t1.toList = t1'.toList) && decide (t2.toList = t2'.toList) && decide (z = z') && decide (t3.toList = t3'.toList))) : (binOp .eql 24 (.agg #[.int .i64 k, .string t1, .string t2, .int .i64 z, .string t3]) (.agg #[.int .i64 k', .string t1', .string t2', .int .i64 z', .string t3'])).run Tryd.prog W = .ok (.bool b) W := by
  simp [go_sem]
  rw [hb]
  by_cases h1 : k = k' <;> by_cases h2 : t1.toList = t1'.toList <;> by_cases h3 : t2.toList = t2'.toList <;> by_cases h4 : z = z' <;> by_cases h5 : t3.toList = t3'.toList <;> simp [h1, h2, h3, h4, h5]
theorem eq_opn (o p : Opn) (W : World) : (binOp .eql 24 (opV o) (opV p)).run Tryd.prog W = .ok (.bool (decide (o = p))) W := by
  obtain ⟨k, nm, tx, z, a⟩ := o
  obtain ⟨k', nm', tx', z', a'⟩ := p
  refine eq_op2 _ _ _ _ _ _ _ _ _ _ W _ ?_
  simp only [text_toList]
  rw [Bool.eq_iff_iff]
  simp [and_assoc]
theorem upd_eq (u v : Upd) : decide (u = v) = (decide (u.author = v.author) && decide (u.preds = v.preds) && decide (u.op = v.op)) := by
  obtain ⟨a, p, o⟩ := u
  obtain ⟨b, q, x⟩ := v
  rw [Bool.eq_iff_iff]
  simp [and_assoc]
end
section
open Go.RowKit
theorem pput_1n (z : Int) (nm tx a : List UInt8) (w : World) (ln : nm.length ≤ 48) (lt : tx.length ≤ 48) (la : a.length ≤ 48) (hz : -2147483647 ≤ z ∧ z ≤ 2147483647) (c0 : z < 0)
    (HC : Hid (∀ W, Calls Tryd.prog 31 #[.agg #[.int .i64 1, .string (text nm), .string (text tx), .int .i64 z, .string (text a)]] W fun e w' => e = .returned (.int .i64 0) ∧ Below W.heap.size W w')) :
    Calls Tryd.prog 20 #[.agg #[.int .i64 1, .string (text nm), .string (text tx), .int .i64 z, .string (text a)]] w (GivesBytes (([UInt8.ofNat 1] ++ textL nm) ++ signL z) w) := by
  obtain ⟨XX, hXX⟩ : ∃ X, X = (([UInt8.ofNat 1] ++ textL nm) ++ signL z) := ⟨_, rfl⟩
  have HXX := Lib.hid hXX
  rw [← hXX]
  clear hXX
  obtain ⟨t1, h1⟩ : ∃ t, t = text nm := ⟨_, rfl⟩
  obtain ⟨t2, h2⟩ : ∃ t, t = text tx := ⟨_, rfl⟩
  obtain ⟨t3, h3⟩ : ∃ t, t = text a := ⟨_, rfl⟩
  have H1 := Lib.hid h1
  have H2 := Lib.hid h2
  have H3 := Lib.hid h3
  have LN := Lib.hid ln
  have LT := Lib.hid lt
  have LA := Lib.hid la
  have HK : Hid (∀ W, Calls Tryd.prog 45 #[.int .i64 1] W fun e w' => e = .returned (.tuple #[.string (text (wordO 1)), .int .i64 5]) ∧ Below W.heap.size W w') := fun W => pkind_yes 1 W ⟨by omega, by omega⟩
  obtain ⟨wd, hwd⟩ : ∃ t, t = text (wordO 1) := ⟨_, rfl⟩
  rw [← hwd] at HK
  clear hwd
  have k1 : bits .and .i64 5 1 = 1 := by decide +kernel
  have k2 : bits .and .i64 5 2 = 0 := by decide +kernel
  have k4 : bits .and .i64 5 4 = 4 := by decide +kernel
  have k8 : bits .and .i64 5 8 = 0 := by decide +kernel
  have HT1 : Hid (∀ w0 W A q c X, PutSt w0 W A q c X → X.length ≤ 1000 → Calls Tryd.prog 46 #[.slice A q c, .string t1] W (GivesApp w0 (X ++ textL nm))) := fun w0 W A q c X hS hX => by rw [h1]; exact pappText_any _ W A q c X nm hS (by omega) hX
  have HZ : Hid (∀ w0 W A q c X, PutSt w0 W A q c X → X.length ≤ 1000 → Calls Tryd.prog 47 #[.slice A q c, .int .i64 z] W (GivesApp w0 (X ++ signL z))) := fun w0 W A q c X hS hX => pappNumber_any _ W A q c X z hS hz hX
  clear c0
  rw [← h1, ← h2, ← h3] at HC ⊢
  clear h1 h2 h3 ln lt la
  clear hz
  have hO0 := Lib.hid (OpAt.new w 1 t1 t2 z t3)
  have hb0 : Below w.heap.size w (w.alloc (.cells #[.int .i64 1, .string t1, .string t2, .int .i64 z, .string t3] 24)) := (Below.refl _ _).alloc (Nat.le_refl _) _
  have a23 := fun w' => Tryd.opAgg w'
  have s23 := fun w' => Tryd.opSize w'
  go_enter Tryd.func20, Tryd.ntmps20
  go_upto_region 6 with (first
    | (go_at_call 31; (with_reducible refine (HC.out _).mono ?_); rintro e w1 ⟨rfl, b1⟩; have hO1 := Lib.hid (hO0.out.up b1); obtain ⟨l0', c0', c1', c2', c3', c4'⟩ := hO1.out)
    | (go_at_call 45; (with_reducible refine (HK.out _).mono ?_); rintro e w2 ⟨rfl, b2⟩; have hO2 := Lib.hid (hO1.out.up b2); have hb2 := Lib.hid (b1.trans (b2.mono b1.size)); obtain ⟨l9, p0, p1, p2, p3, p4⟩ := hO2.out))
  clear l0' c0' c1' c2' c3' c4' l9 p0 p1 p2 p3 p4
  have hS : Hid (PutSt (w.alloc (.cells #[.int .i64 1, .string t1, .string t2, .int .i64 z, .string t3] 24)) (w2.alloc (.cells #[.int .u8 1] 5)) (some ⟨w2.heap.size, 0, none⟩) 1 1 [UInt8.ofNat 1]) := by
    have hz2 := hb2.out.size
    exact ⟨rfl, ⟨rfl, .inr ⟨w2.heap.size, 1, #[.int .u8 1], rfl, hz2, heap_alloc_new w2 _, Nat.le_refl _, by simp [maxLen], rfl, rfl⟩⟩, hb2.out.alloc hz2 _⟩
  obtain ⟨wp, hwp⟩ : ∃ x, x = w2.alloc (.cells #[.int .u8 1] 5) := ⟨_, rfl⟩
  rw [← hwp] at hS ⊢
  obtain ⟨A9, hA9⟩ : ∃ x, x = (some ⟨w2.heap.size, 0, none⟩ : Option Addr) := ⟨_, rfl⟩
  rw [← hA9] at hS ⊢
  obtain ⟨q9, hq9⟩ : ∃ x : Nat, x = 1 := ⟨_, rfl⟩
  clear hwp hA9 b1 b2 hO1 hO2 hb2 hq9 q9
  obtain ⟨l0, c0, c1, c2, c3, c4⟩ := hO0.out.up hS.out.2.2
  obtain ⟨X0, hX0⟩ : ∃ X, X = [UInt8.ofNat 1] := ⟨_, rfl⟩
  have hX0l : X0.length = 1 := by rw [hX0]; rfl
  rw [← hX0] at hS
  have HX0 := Lib.hid hX0
  clear hX0
  have HL0 := Lib.hid hX0l
  clear hX0l
  go_wp2_with (first
    | (go_at_call 47; (with_reducible refine (HZ.out _ _ _ _ _ _ h5.out (by have h0 := HL1.out; omega)).mono ?_); rintro e w6 ⟨A6, q6, d6, rfl, h6⟩; have h6 := Lib.hid h6; have HL2 : Hid (((X0 ++ textL nm) ++ signL z).length ≤ 120) := (by show _ ≤ _; rw [List.length_append]; have h0 := HL1.out; have h8 := Nat.le_of_eq (signL_length z); omega); clear l0 c0 c1 c2 c3 c4; obtain ⟨l0, c0, c1, c2, c3, c4⟩ := hO0.out.up h6.out.2.2)
    | (go_at_call 46; (with_reducible refine (HT1.out _ _ _ _ _ _ hS.out (by have h0 := HL0.out; omega)).mono ?_); rintro e w5 ⟨A5, q5, d5, rfl, h5⟩; have h5 := Lib.hid h5; have HL1 : Hid ((X0 ++ textL nm).length ≤ 60) := (by show _ ≤ _; rw [List.length_append]; have h0 := HL0.out; have h8 := textL_le nm LN.out; omega); clear l0 c0 c1 c2 c3 c4; obtain ⟨l0, c0, c1, c2, c3, c4⟩ := hO0.out.up h5.out.2.2))
  go_ret2
  have h := h6.out
  rw [HX0.out] at h
  rw [HXX.out]
  exact put_gives rfl h
theorem pput_1p (z : Int) (nm tx a : List UInt8) (w : World) (ln : nm.length ≤ 48) (lt : tx.length ≤ 48) (la : a.length ≤ 48) (hz : -2147483647 ≤ z ∧ z ≤ 2147483647) (c0 : ¬ z < 0)
    (HC : Hid (∀ W, Calls Tryd.prog 31 #[.agg #[.int .i64 1, .string (text nm), .string (text tx), .int .i64 z, .string (text a)]] W fun e w' => e = .returned (.int .i64 0) ∧ Below W.heap.size W w')) :
    Calls Tryd.prog 20 #[.agg #[.int .i64 1, .string (text nm), .string (text tx), .int .i64 z, .string (text a)]] w (GivesBytes (([UInt8.ofNat 1] ++ textL nm) ++ signL z) w) := by
  obtain ⟨XX, hXX⟩ : ∃ X, X = (([UInt8.ofNat 1] ++ textL nm) ++ signL z) := ⟨_, rfl⟩
  have HXX := Lib.hid hXX
  rw [← hXX]
  clear hXX
  obtain ⟨t1, h1⟩ : ∃ t, t = text nm := ⟨_, rfl⟩
  obtain ⟨t2, h2⟩ : ∃ t, t = text tx := ⟨_, rfl⟩
  obtain ⟨t3, h3⟩ : ∃ t, t = text a := ⟨_, rfl⟩
  have H1 := Lib.hid h1
  have H2 := Lib.hid h2
  have H3 := Lib.hid h3
  have LN := Lib.hid ln
  have LT := Lib.hid lt
  have LA := Lib.hid la
  have HK : Hid (∀ W, Calls Tryd.prog 45 #[.int .i64 1] W fun e w' => e = .returned (.tuple #[.string (text (wordO 1)), .int .i64 5]) ∧ Below W.heap.size W w') := fun W => pkind_yes 1 W ⟨by omega, by omega⟩
  obtain ⟨wd, hwd⟩ : ∃ t, t = text (wordO 1) := ⟨_, rfl⟩
  rw [← hwd] at HK
  clear hwd
  have k1 : bits .and .i64 5 1 = 1 := by decide +kernel
  have k2 : bits .and .i64 5 2 = 0 := by decide +kernel
  have k4 : bits .and .i64 5 4 = 4 := by decide +kernel
  have k8 : bits .and .i64 5 8 = 0 := by decide +kernel
  have HT1 : Hid (∀ w0 W A q c X, PutSt w0 W A q c X → X.length ≤ 1000 → Calls Tryd.prog 46 #[.slice A q c, .string t1] W (GivesApp w0 (X ++ textL nm))) := fun w0 W A q c X hS hX => by rw [h1]; exact pappText_any _ W A q c X nm hS (by omega) hX
  have HZ : Hid (∀ w0 W A q c X, PutSt w0 W A q c X → X.length ≤ 1000 → Calls Tryd.prog 47 #[.slice A q c, .int .i64 z] W (GivesApp w0 (X ++ signL z))) := fun w0 W A q c X hS hX => pappNumber_any _ W A q c X z hS hz hX
  clear c0
  rw [← h1, ← h2, ← h3] at HC ⊢
  clear h1 h2 h3 ln lt la
  clear hz
  have hO0 := Lib.hid (OpAt.new w 1 t1 t2 z t3)
  have hb0 : Below w.heap.size w (w.alloc (.cells #[.int .i64 1, .string t1, .string t2, .int .i64 z, .string t3] 24)) := (Below.refl _ _).alloc (Nat.le_refl _) _
  have a23 := fun w' => Tryd.opAgg w'
  have s23 := fun w' => Tryd.opSize w'
  go_enter Tryd.func20, Tryd.ntmps20
  go_upto_region 6 with (first
    | (go_at_call 31; (with_reducible refine (HC.out _).mono ?_); rintro e w1 ⟨rfl, b1⟩; have hO1 := Lib.hid (hO0.out.up b1); obtain ⟨l0', c0', c1', c2', c3', c4'⟩ := hO1.out)
    | (go_at_call 45; (with_reducible refine (HK.out _).mono ?_); rintro e w2 ⟨rfl, b2⟩; have hO2 := Lib.hid (hO1.out.up b2); have hb2 := Lib.hid (b1.trans (b2.mono b1.size)); obtain ⟨l9, p0, p1, p2, p3, p4⟩ := hO2.out))
  clear l0' c0' c1' c2' c3' c4' l9 p0 p1 p2 p3 p4
  have hS : Hid (PutSt (w.alloc (.cells #[.int .i64 1, .string t1, .string t2, .int .i64 z, .string t3] 24)) (w2.alloc (.cells #[.int .u8 1] 5)) (some ⟨w2.heap.size, 0, none⟩) 1 1 [UInt8.ofNat 1]) := by
    have hz2 := hb2.out.size
    exact ⟨rfl, ⟨rfl, .inr ⟨w2.heap.size, 1, #[.int .u8 1], rfl, hz2, heap_alloc_new w2 _, Nat.le_refl _, by simp [maxLen], rfl, rfl⟩⟩, hb2.out.alloc hz2 _⟩
  obtain ⟨wp, hwp⟩ : ∃ x, x = w2.alloc (.cells #[.int .u8 1] 5) := ⟨_, rfl⟩
  rw [← hwp] at hS ⊢
  obtain ⟨A9, hA9⟩ : ∃ x, x = (some ⟨w2.heap.size, 0, none⟩ : Option Addr) := ⟨_, rfl⟩
  rw [← hA9] at hS ⊢
  obtain ⟨q9, hq9⟩ : ∃ x : Nat, x = 1 := ⟨_, rfl⟩
  clear hwp hA9 b1 b2 hO1 hO2 hb2 hq9 q9
  obtain ⟨l0, c0, c1, c2, c3, c4⟩ := hO0.out.up hS.out.2.2
  obtain ⟨X0, hX0⟩ : ∃ X, X = [UInt8.ofNat 1] := ⟨_, rfl⟩
  have hX0l : X0.length = 1 := by rw [hX0]; rfl
  rw [← hX0] at hS
  have HX0 := Lib.hid hX0
  clear hX0
  have HL0 := Lib.hid hX0l
  clear hX0l
  go_wp2_with (first
    | (go_at_call 47; (with_reducible refine (HZ.out _ _ _ _ _ _ h5.out (by have h0 := HL1.out; omega)).mono ?_); rintro e w6 ⟨A6, q6, d6, rfl, h6⟩; have h6 := Lib.hid h6; have HL2 : Hid (((X0 ++ textL nm) ++ signL z).length ≤ 120) := (by show _ ≤ _; rw [List.length_append]; have h0 := HL1.out; have h8 := Nat.le_of_eq (signL_length z); omega); clear l0 c0 c1 c2 c3 c4; obtain ⟨l0, c0, c1, c2, c3, c4⟩ := hO0.out.up h6.out.2.2)
    | (go_at_call 46; (with_reducible refine (HT1.out _ _ _ _ _ _ hS.out (by have h0 := HL0.out; omega)).mono ?_); rintro e w5 ⟨A5, q5, d5, rfl, h5⟩; have h5 := Lib.hid h5; have HL1 : Hid ((X0 ++ textL nm).length ≤ 60) := (by show _ ≤ _; rw [List.length_append]; have h0 := HL0.out; have h8 := textL_le nm LN.out; omega); clear l0 c0 c1 c2 c3 c4; obtain ⟨l0, c0, c1, c2, c3, c4⟩ := hO0.out.up h5.out.2.2))
  go_ret2
  have h := h6.out
  rw [HX0.out] at h
  rw [HXX.out]
  exact put_gives rfl h
theorem pput_2 (z : Int) (nm tx a : List UInt8) (w : World) (ln : nm.length ≤ 48) (lt : tx.length ≤ 48) (la : a.length ≤ 48) (hz : -2147483647 ≤ z ∧ z ≤ 2147483647)
    (HC : Hid (∀ W, Calls Tryd.prog 31 #[.agg #[.int .i64 2, .string (text nm), .string (text tx), .int .i64 z, .string (text a)]] W fun e w' => e = .returned (.int .i64 0) ∧ Below W.heap.size W w')) :
    Calls Tryd.prog 20 #[.agg #[.int .i64 2, .string (text nm), .string (text tx), .int .i64 z, .string (text a)]] w (GivesBytes (([UInt8.ofNat 2] ++ textL nm) ++ textL tx) w) := by
  obtain ⟨XX, hXX⟩ : ∃ X, X = (([UInt8.ofNat 2] ++ textL nm) ++ textL tx) := ⟨_, rfl⟩
  have HXX := Lib.hid hXX
  rw [← hXX]
  clear hXX
  obtain ⟨t1, h1⟩ : ∃ t, t = text nm := ⟨_, rfl⟩
  obtain ⟨t2, h2⟩ : ∃ t, t = text tx := ⟨_, rfl⟩
  obtain ⟨t3, h3⟩ : ∃ t, t = text a := ⟨_, rfl⟩
  have H1 := Lib.hid h1
  have H2 := Lib.hid h2
  have H3 := Lib.hid h3
  have LN := Lib.hid ln
  have LT := Lib.hid lt
  have LA := Lib.hid la
  have HK : Hid (∀ W, Calls Tryd.prog 45 #[.int .i64 2] W fun e w' => e = .returned (.tuple #[.string (text (wordO 2)), .int .i64 3]) ∧ Below W.heap.size W w') := fun W => pkind_yes 2 W ⟨by omega, by omega⟩
  obtain ⟨wd, hwd⟩ : ∃ t, t = text (wordO 2) := ⟨_, rfl⟩
  rw [← hwd] at HK
  clear hwd
  have k1 : bits .and .i64 3 1 = 1 := by decide +kernel
  have k2 : bits .and .i64 3 2 = 2 := by decide +kernel
  have k4 : bits .and .i64 3 4 = 0 := by decide +kernel
  have k8 : bits .and .i64 3 8 = 0 := by decide +kernel
  have HT1 : Hid (∀ w0 W A q c X, PutSt w0 W A q c X → X.length ≤ 1000 → Calls Tryd.prog 46 #[.slice A q c, .string t1] W (GivesApp w0 (X ++ textL nm))) := fun w0 W A q c X hS hX => by rw [h1]; exact pappText_any _ W A q c X nm hS (by omega) hX
  have HT2 : Hid (∀ w0 W A q c X, PutSt w0 W A q c X → X.length ≤ 1000 → Calls Tryd.prog 46 #[.slice A q c, .string t2] W (GivesApp w0 (X ++ textL tx))) := fun w0 W A q c X hS hX => by rw [h2]; exact pappText_any _ W A q c X tx hS (by omega) hX
  rw [← h1, ← h2, ← h3] at HC ⊢
  clear h1 h2 h3 ln lt la
  clear hz
  have hO0 := Lib.hid (OpAt.new w 2 t1 t2 z t3)
  have hb0 : Below w.heap.size w (w.alloc (.cells #[.int .i64 2, .string t1, .string t2, .int .i64 z, .string t3] 24)) := (Below.refl _ _).alloc (Nat.le_refl _) _
  have a23 := fun w' => Tryd.opAgg w'
  have s23 := fun w' => Tryd.opSize w'
  go_enter Tryd.func20, Tryd.ntmps20
  go_upto_region 6 with (first
    | (go_at_call 31; (with_reducible refine (HC.out _).mono ?_); rintro e w1 ⟨rfl, b1⟩; have hO1 := Lib.hid (hO0.out.up b1); obtain ⟨l0', c0', c1', c2', c3', c4'⟩ := hO1.out)
    | (go_at_call 45; (with_reducible refine (HK.out _).mono ?_); rintro e w2 ⟨rfl, b2⟩; have hO2 := Lib.hid (hO1.out.up b2); have hb2 := Lib.hid (b1.trans (b2.mono b1.size)); obtain ⟨l9, p0, p1, p2, p3, p4⟩ := hO2.out))
  clear l0' c0' c1' c2' c3' c4' l9 p0 p1 p2 p3 p4
  have hS : Hid (PutSt (w.alloc (.cells #[.int .i64 2, .string t1, .string t2, .int .i64 z, .string t3] 24)) (w2.alloc (.cells #[.int .u8 2] 5)) (some ⟨w2.heap.size, 0, none⟩) 1 1 [UInt8.ofNat 2]) := by
    have hz2 := hb2.out.size
    exact ⟨rfl, ⟨rfl, .inr ⟨w2.heap.size, 1, #[.int .u8 2], rfl, hz2, heap_alloc_new w2 _, Nat.le_refl _, by simp [maxLen], rfl, rfl⟩⟩, hb2.out.alloc hz2 _⟩
  obtain ⟨wp, hwp⟩ : ∃ x, x = w2.alloc (.cells #[.int .u8 2] 5) := ⟨_, rfl⟩
  rw [← hwp] at hS ⊢
  obtain ⟨A9, hA9⟩ : ∃ x, x = (some ⟨w2.heap.size, 0, none⟩ : Option Addr) := ⟨_, rfl⟩
  rw [← hA9] at hS ⊢
  obtain ⟨q9, hq9⟩ : ∃ x : Nat, x = 1 := ⟨_, rfl⟩
  clear hwp hA9 b1 b2 hO1 hO2 hb2 hq9 q9
  obtain ⟨l0, c0, c1, c2, c3, c4⟩ := hO0.out.up hS.out.2.2
  obtain ⟨X0, hX0⟩ : ∃ X, X = [UInt8.ofNat 2] := ⟨_, rfl⟩
  have hX0l : X0.length = 1 := by rw [hX0]; rfl
  rw [← hX0] at hS
  have HX0 := Lib.hid hX0
  clear hX0
  have HL0 := Lib.hid hX0l
  clear hX0l
  go_wp2_with (first
    | (go_at_call 46; (with_reducible refine (HT2.out _ _ _ _ _ _ h5.out (by have h0 := HL1.out; omega)).mono ?_); rintro e w6 ⟨A6, q6, d6, rfl, h6⟩; have h6 := Lib.hid h6; have HL2 : Hid (((X0 ++ textL nm) ++ textL tx).length ≤ 120) := (by show _ ≤ _; rw [List.length_append]; have h0 := HL1.out; have h8 := textL_le tx LT.out; omega); clear l0 c0 c1 c2 c3 c4; obtain ⟨l0, c0, c1, c2, c3, c4⟩ := hO0.out.up h6.out.2.2)
    | (go_at_call 46; (with_reducible refine (HT1.out _ _ _ _ _ _ hS.out (by have h0 := HL0.out; omega)).mono ?_); rintro e w5 ⟨A5, q5, d5, rfl, h5⟩; have h5 := Lib.hid h5; have HL1 : Hid ((X0 ++ textL nm).length ≤ 60) := (by show _ ≤ _; rw [List.length_append]; have h0 := HL0.out; have h8 := textL_le nm LN.out; omega); clear l0 c0 c1 c2 c3 c4; obtain ⟨l0, c0, c1, c2, c3, c4⟩ := hO0.out.up h5.out.2.2))
  go_ret2
  have h := h6.out
  rw [HX0.out] at h
  rw [HXX.out]
  exact put_gives rfl h
theorem pput_3 (z : Int) (nm tx a : List UInt8) (w : World) (ln : nm.length ≤ 48) (lt : tx.length ≤ 48) (la : a.length ≤ 48) (hz : -2147483647 ≤ z ∧ z ≤ 2147483647)
    (HC : Hid (∀ W, Calls Tryd.prog 31 #[.agg #[.int .i64 3, .string (text nm), .string (text tx), .int .i64 z, .string (text a)]] W fun e w' => e = .returned (.int .i64 0) ∧ Below W.heap.size W w')) :
    Calls Tryd.prog 20 #[.agg #[.int .i64 3, .string (text nm), .string (text tx), .int .i64 z, .string (text a)]] w (GivesBytes (([UInt8.ofNat 3] ++ textL nm) ++ textL tx) w) := by
  obtain ⟨XX, hXX⟩ : ∃ X, X = (([UInt8.ofNat 3] ++ textL nm) ++ textL tx) := ⟨_, rfl⟩
  have HXX := Lib.hid hXX
  rw [← hXX]
  clear hXX
  obtain ⟨t1, h1⟩ : ∃ t, t = text nm := ⟨_, rfl⟩
  obtain ⟨t2, h2⟩ : ∃ t, t = text tx := ⟨_, rfl⟩
  obtain ⟨t3, h3⟩ : ∃ t, t = text a := ⟨_, rfl⟩
  have H1 := Lib.hid h1
  have H2 := Lib.hid h2
  have H3 := Lib.hid h3
  have LN := Lib.hid ln
  have LT := Lib.hid lt
  have LA := Lib.hid la
  have HK : Hid (∀ W, Calls Tryd.prog 45 #[.int .i64 3] W fun e w' => e = .returned (.tuple #[.string (text (wordO 3)), .int .i64 3]) ∧ Below W.heap.size W w') := fun W => pkind_yes 3 W ⟨by omega, by omega⟩
  obtain ⟨wd, hwd⟩ : ∃ t, t = text (wordO 3) := ⟨_, rfl⟩
  rw [← hwd] at HK
  clear hwd
  have k1 : bits .and .i64 3 1 = 1 := by decide +kernel
  have k2 : bits .and .i64 3 2 = 2 := by decide +kernel
  have k4 : bits .and .i64 3 4 = 0 := by decide +kernel
  have k8 : bits .and .i64 3 8 = 0 := by decide +kernel
  have HT1 : Hid (∀ w0 W A q c X, PutSt w0 W A q c X → X.length ≤ 1000 → Calls Tryd.prog 46 #[.slice A q c, .string t1] W (GivesApp w0 (X ++ textL nm))) := fun w0 W A q c X hS hX => by rw [h1]; exact pappText_any _ W A q c X nm hS (by omega) hX
  have HT2 : Hid (∀ w0 W A q c X, PutSt w0 W A q c X → X.length ≤ 1000 → Calls Tryd.prog 46 #[.slice A q c, .string t2] W (GivesApp w0 (X ++ textL tx))) := fun w0 W A q c X hS hX => by rw [h2]; exact pappText_any _ W A q c X tx hS (by omega) hX
  rw [← h1, ← h2, ← h3] at HC ⊢
  clear h1 h2 h3 ln lt la
  clear hz
  have hO0 := Lib.hid (OpAt.new w 3 t1 t2 z t3)
  have hb0 : Below w.heap.size w (w.alloc (.cells #[.int .i64 3, .string t1, .string t2, .int .i64 z, .string t3] 24)) := (Below.refl _ _).alloc (Nat.le_refl _) _
  have a23 := fun w' => Tryd.opAgg w'
  have s23 := fun w' => Tryd.opSize w'
  go_enter Tryd.func20, Tryd.ntmps20
  go_upto_region 6 with (first
    | (go_at_call 31; (with_reducible refine (HC.out _).mono ?_); rintro e w1 ⟨rfl, b1⟩; have hO1 := Lib.hid (hO0.out.up b1); obtain ⟨l0', c0', c1', c2', c3', c4'⟩ := hO1.out)
    | (go_at_call 45; (with_reducible refine (HK.out _).mono ?_); rintro e w2 ⟨rfl, b2⟩; have hO2 := Lib.hid (hO1.out.up b2); have hb2 := Lib.hid (b1.trans (b2.mono b1.size)); obtain ⟨l9, p0, p1, p2, p3, p4⟩ := hO2.out))
  clear l0' c0' c1' c2' c3' c4' l9 p0 p1 p2 p3 p4
  have hS : Hid (PutSt (w.alloc (.cells #[.int .i64 3, .string t1, .string t2, .int .i64 z, .string t3] 24)) (w2.alloc (.cells #[.int .u8 3] 5)) (some ⟨w2.heap.size, 0, none⟩) 1 1 [UInt8.ofNat 3]) := by
    have hz2 := hb2.out.size
    exact ⟨rfl, ⟨rfl, .inr ⟨w2.heap.size, 1, #[.int .u8 3], rfl, hz2, heap_alloc_new w2 _, Nat.le_refl _, by simp [maxLen], rfl, rfl⟩⟩, hb2.out.alloc hz2 _⟩
  obtain ⟨wp, hwp⟩ : ∃ x, x = w2.alloc (.cells #[.int .u8 3] 5) := ⟨_, rfl⟩
  rw [← hwp] at hS ⊢
  obtain ⟨A9, hA9⟩ : ∃ x, x = (some ⟨w2.heap.size, 0, none⟩ : Option Addr) := ⟨_, rfl⟩
  rw [← hA9] at hS ⊢
  obtain ⟨q9, hq9⟩ : ∃ x : Nat, x = 1 := ⟨_, rfl⟩
  clear hwp hA9 b1 b2 hO1 hO2 hb2 hq9 q9
  obtain ⟨l0, c0, c1, c2, c3, c4⟩ := hO0.out.up hS.out.2.2
  obtain ⟨X0, hX0⟩ : ∃ X, X = [UInt8.ofNat 3] := ⟨_, rfl⟩
  have hX0l : X0.length = 1 := by rw [hX0]; rfl
  rw [← hX0] at hS
  have HX0 := Lib.hid hX0
  clear hX0
  have HL0 := Lib.hid hX0l
  clear hX0l
  go_wp2_with (first
    | (go_at_call 46; (with_reducible refine (HT2.out _ _ _ _ _ _ h5.out (by have h0 := HL1.out; omega)).mono ?_); rintro e w6 ⟨A6, q6, d6, rfl, h6⟩; have h6 := Lib.hid h6; have HL2 : Hid (((X0 ++ textL nm) ++ textL tx).length ≤ 120) := (by show _ ≤ _; rw [List.length_append]; have h0 := HL1.out; have h8 := textL_le tx LT.out; omega); clear l0 c0 c1 c2 c3 c4; obtain ⟨l0, c0, c1, c2, c3, c4⟩ := hO0.out.up h6.out.2.2)
    | (go_at_call 46; (with_reducible refine (HT1.out _ _ _ _ _ _ hS.out (by have h0 := HL0.out; omega)).mono ?_); rintro e w5 ⟨A5, q5, d5, rfl, h5⟩; have h5 := Lib.hid h5; have HL1 : Hid ((X0 ++ textL nm).length ≤ 60) := (by show _ ≤ _; rw [List.length_append]; have h0 := HL0.out; have h8 := textL_le nm LN.out; omega); clear l0 c0 c1 c2 c3 c4; obtain ⟨l0, c0, c1, c2, c3, c4⟩ := hO0.out.up h5.out.2.2))
  go_ret2
  have h := h6.out
  rw [HX0.out] at h
  rw [HXX.out]
  exact put_gives rfl h
theorem pput_4 (z : Int) (nm tx a : List UInt8) (w : World) (ln : nm.length ≤ 48) (lt : tx.length ≤ 48) (la : a.length ≤ 48) (hz : -2147483647 ≤ z ∧ z ≤ 2147483647)
    (HC : Hid (∀ W, Calls Tryd.prog 31 #[.agg #[.int .i64 4, .string (text nm), .string (text tx), .int .i64 z, .string (text a)]] W fun e w' => e = .returned (.int .i64 0) ∧ Below W.heap.size W w')) :
    Calls Tryd.prog 20 #[.agg #[.int .i64 4, .string (text nm), .string (text tx), .int .i64 z, .string (text a)]] w (GivesBytes (([UInt8.ofNat 4] ++ textL nm) ++ textL tx) w) := by
  obtain ⟨XX, hXX⟩ : ∃ X, X = (([UInt8.ofNat 4] ++ textL nm) ++ textL tx) := ⟨_, rfl⟩
  have HXX := Lib.hid hXX
  rw [← hXX]
  clear hXX
  obtain ⟨t1, h1⟩ : ∃ t, t = text nm := ⟨_, rfl⟩
  obtain ⟨t2, h2⟩ : ∃ t, t = text tx := ⟨_, rfl⟩
  obtain ⟨t3, h3⟩ : ∃ t, t = text a := ⟨_, rfl⟩
  have H1 := Lib.hid h1
  have H2 := Lib.hid h2
  have H3 := Lib.hid h3
  have LN := Lib.hid ln
  have LT := Lib.hid lt
  have LA := Lib.hid la
  have HK : Hid (∀ W, Calls Tryd.prog 45 #[.int .i64 4] W fun e w' => e = .returned (.tuple #[.string (text (wordO 4)), .int .i64 3]) ∧ Below W.heap.size W w') := fun W => pkind_yes 4 W ⟨by omega, by omega⟩
  obtain ⟨wd, hwd⟩ : ∃ t, t = text (wordO 4) := ⟨_, rfl⟩
  rw [← hwd] at HK
  clear hwd
  have k1 : bits .and .i64 3 1 = 1 := by decide +kernel
  have k2 : bits .and .i64 3 2 = 2 := by decide +kernel
  have k4 : bits .and .i64 3 4 = 0 := by decide +kernel
  have k8 : bits .and .i64 3 8 = 0 := by decide +kernel
  have HT1 : Hid (∀ w0 W A q c X, PutSt w0 W A q c X → X.length ≤ 1000 → Calls Tryd.prog 46 #[.slice A q c, .string t1] W (GivesApp w0 (X ++ textL nm))) := fun w0 W A q c X hS hX => by rw [h1]; exact pappText_any _ W A q c X nm hS (by omega) hX
  have HT2 : Hid (∀ w0 W A q c X, PutSt w0 W A q c X → X.length ≤ 1000 → Calls Tryd.prog 46 #[.slice A q c, .string t2] W (GivesApp w0 (X ++ textL tx))) := fun w0 W A q c X hS hX => by rw [h2]; exact pappText_any _ W A q c X tx hS (by omega) hX
  rw [← h1, ← h2, ← h3] at HC ⊢
  clear h1 h2 h3 ln lt la
  clear hz
  have hO0 := Lib.hid (OpAt.new w 4 t1 t2 z t3)
  have hb0 : Below w.heap.size w (w.alloc (.cells #[.int .i64 4, .string t1, .string t2, .int .i64 z, .string t3] 24)) := (Below.refl _ _).alloc (Nat.le_refl _) _
  have a23 := fun w' => Tryd.opAgg w'
  have s23 := fun w' => Tryd.opSize w'
  go_enter Tryd.func20, Tryd.ntmps20
  go_upto_region 6 with (first
    | (go_at_call 31; (with_reducible refine (HC.out _).mono ?_); rintro e w1 ⟨rfl, b1⟩; have hO1 := Lib.hid (hO0.out.up b1); obtain ⟨l0', c0', c1', c2', c3', c4'⟩ := hO1.out)
    | (go_at_call 45; (with_reducible refine (HK.out _).mono ?_); rintro e w2 ⟨rfl, b2⟩; have hO2 := Lib.hid (hO1.out.up b2); have hb2 := Lib.hid (b1.trans (b2.mono b1.size)); obtain ⟨l9, p0, p1, p2, p3, p4⟩ := hO2.out))
  clear l0' c0' c1' c2' c3' c4' l9 p0 p1 p2 p3 p4
  have hS : Hid (PutSt (w.alloc (.cells #[.int .i64 4, .string t1, .string t2, .int .i64 z, .string t3] 24)) (w2.alloc (.cells #[.int .u8 4] 5)) (some ⟨w2.heap.size, 0, none⟩) 1 1 [UInt8.ofNat 4]) := by
    have hz2 := hb2.out.size
    exact ⟨rfl, ⟨rfl, .inr ⟨w2.heap.size, 1, #[.int .u8 4], rfl, hz2, heap_alloc_new w2 _, Nat.le_refl _, by simp [maxLen], rfl, rfl⟩⟩, hb2.out.alloc hz2 _⟩
  obtain ⟨wp, hwp⟩ : ∃ x, x = w2.alloc (.cells #[.int .u8 4] 5) := ⟨_, rfl⟩
  rw [← hwp] at hS ⊢
  obtain ⟨A9, hA9⟩ : ∃ x, x = (some ⟨w2.heap.size, 0, none⟩ : Option Addr) := ⟨_, rfl⟩
  rw [← hA9] at hS ⊢
  obtain ⟨q9, hq9⟩ : ∃ x : Nat, x = 1 := ⟨_, rfl⟩
  clear hwp hA9 b1 b2 hO1 hO2 hb2 hq9 q9
  obtain ⟨l0, c0, c1, c2, c3, c4⟩ := hO0.out.up hS.out.2.2
  obtain ⟨X0, hX0⟩ : ∃ X, X = [UInt8.ofNat 4] := ⟨_, rfl⟩
  have hX0l : X0.length = 1 := by rw [hX0]; rfl
  rw [← hX0] at hS
  have HX0 := Lib.hid hX0
  clear hX0
  have HL0 := Lib.hid hX0l
  clear hX0l
  go_wp2_with (first
    | (go_at_call 46; (with_reducible refine (HT2.out _ _ _ _ _ _ h5.out (by have h0 := HL1.out; omega)).mono ?_); rintro e w6 ⟨A6, q6, d6, rfl, h6⟩; have h6 := Lib.hid h6; have HL2 : Hid (((X0 ++ textL nm) ++ textL tx).length ≤ 120) := (by show _ ≤ _; rw [List.length_append]; have h0 := HL1.out; have h8 := textL_le tx LT.out; omega); clear l0 c0 c1 c2 c3 c4; obtain ⟨l0, c0, c1, c2, c3, c4⟩ := hO0.out.up h6.out.2.2)
    | (go_at_call 46; (with_reducible refine (HT1.out _ _ _ _ _ _ hS.out (by have h0 := HL0.out; omega)).mono ?_); rintro e w5 ⟨A5, q5, d5, rfl, h5⟩; have h5 := Lib.hid h5; have HL1 : Hid ((X0 ++ textL nm).length ≤ 60) := (by show _ ≤ _; rw [List.length_append]; have h0 := HL0.out; have h8 := textL_le nm LN.out; omega); clear l0 c0 c1 c2 c3 c4; obtain ⟨l0, c0, c1, c2, c3, c4⟩ := hO0.out.up h5.out.2.2))
  go_ret2
  have h := h6.out
  rw [HX0.out] at h
  rw [HXX.out]
  exact put_gives rfl h
theorem pput_5e (z : Int) (nm tx a : List UInt8) (w : World) (ln : nm.length ≤ 48) (lt : tx.length ≤ 48) (la : a.length ≤ 48) (hz : -2147483647 ≤ z ∧ z ≤ 2147483647) (ca : a = [])
    (HC : Hid (∀ W, Calls Tryd.prog 31 #[.agg #[.int .i64 5, .string (text nm), .string (text tx), .int .i64 z, .string (text a)]] W fun e w' => e = .returned (.int .i64 0) ∧ Below W.heap.size W w')) :
    Calls Tryd.prog 20 #[.agg #[.int .i64 5, .string (text nm), .string (text tx), .int .i64 z, .string (text a)]] w (GivesBytes ((([UInt8.ofNat 5] ++ textL nm) ++ textL tx) ++ atL 5 a) w) := by
  obtain ⟨XX, hXX⟩ : ∃ X, X = ((([UInt8.ofNat 5] ++ textL nm) ++ textL tx) ++ atL 5 a) := ⟨_, rfl⟩
  have HXX := Lib.hid hXX
  rw [← hXX]
  clear hXX
  obtain ⟨t1, h1⟩ : ∃ t, t = text nm := ⟨_, rfl⟩
  obtain ⟨t2, h2⟩ : ∃ t, t = text tx := ⟨_, rfl⟩
  obtain ⟨t3, h3⟩ : ∃ t, t = text a := ⟨_, rfl⟩
  have H1 := Lib.hid h1
  have H2 := Lib.hid h2
  have H3 := Lib.hid h3
  have LN := Lib.hid ln
  have LT := Lib.hid lt
  have LA := Lib.hid la
  have HK : Hid (∀ W, Calls Tryd.prog 45 #[.int .i64 5] W fun e w' => e = .returned (.tuple #[.string (text (wordO 5)), .int .i64 27]) ∧ Below W.heap.size W w') := fun W => pkind_yes 5 W ⟨by omega, by omega⟩
  obtain ⟨wd, hwd⟩ : ∃ t, t = text (wordO 5) := ⟨_, rfl⟩
  rw [← hwd] at HK
  clear hwd
  have k1 : bits .and .i64 27 1 = 1 := by decide +kernel
  have k2 : bits .and .i64 27 2 = 2 := by decide +kernel
  have k4 : bits .and .i64 27 4 = 0 := by decide +kernel
  have k8 : bits .and .i64 27 8 = 8 := by decide +kernel
  have HT1 : Hid (∀ w0 W A q c X, PutSt w0 W A q c X → X.length ≤ 1000 → Calls Tryd.prog 46 #[.slice A q c, .string t1] W (GivesApp w0 (X ++ textL nm))) := fun w0 W A q c X hS hX => by rw [h1]; exact pappText_any _ W A q c X nm hS (by omega) hX
  have HT2 : Hid (∀ w0 W A q c X, PutSt w0 W A q c X → X.length ≤ 1000 → Calls Tryd.prog 46 #[.slice A q c, .string t2] W (GivesApp w0 (X ++ textL tx))) := fun w0 W A q c X hS hX => by rw [h2]; exact pappText_any _ W A q c X tx hS (by omega) hX
  have HA : Hid (∀ w0 W A q c X, PutSt w0 W A q c X → X.length ≤ 1000 → Calls Tryd.prog 48 #[.slice A q c, .string t3, .int .i64 27] W (GivesApp w0 (X ++ atL 5 a))) := fun w0 W A q c X hS hX => by rw [h3]; exact pappAt_5 _ W A q c X a 27 hS (by decide +kernel) (by omega) hX
  clear ca
  rw [← h1, ← h2, ← h3] at HC ⊢
  clear h1 h2 h3 ln lt la
  clear hz
  have hO0 := Lib.hid (OpAt.new w 5 t1 t2 z t3)
  have hb0 : Below w.heap.size w (w.alloc (.cells #[.int .i64 5, .string t1, .string t2, .int .i64 z, .string t3] 24)) := (Below.refl _ _).alloc (Nat.le_refl _) _
  have a23 := fun w' => Tryd.opAgg w'
  have s23 := fun w' => Tryd.opSize w'
  go_enter Tryd.func20, Tryd.ntmps20
  go_upto_region 6 with (first
    | (go_at_call 31; (with_reducible refine (HC.out _).mono ?_); rintro e w1 ⟨rfl, b1⟩; have hO1 := Lib.hid (hO0.out.up b1); obtain ⟨l0', c0', c1', c2', c3', c4'⟩ := hO1.out)
    | (go_at_call 45; (with_reducible refine (HK.out _).mono ?_); rintro e w2 ⟨rfl, b2⟩; have hO2 := Lib.hid (hO1.out.up b2); have hb2 := Lib.hid (b1.trans (b2.mono b1.size)); obtain ⟨l9, p0, p1, p2, p3, p4⟩ := hO2.out))
  clear l0' c0' c1' c2' c3' c4' l9 p0 p1 p2 p3 p4
  have hS : Hid (PutSt (w.alloc (.cells #[.int .i64 5, .string t1, .string t2, .int .i64 z, .string t3] 24)) (w2.alloc (.cells #[.int .u8 5] 5)) (some ⟨w2.heap.size, 0, none⟩) 1 1 [UInt8.ofNat 5]) := by
    have hz2 := hb2.out.size
    exact ⟨rfl, ⟨rfl, .inr ⟨w2.heap.size, 1, #[.int .u8 5], rfl, hz2, heap_alloc_new w2 _, Nat.le_refl _, by simp [maxLen], rfl, rfl⟩⟩, hb2.out.alloc hz2 _⟩
  obtain ⟨wp, hwp⟩ : ∃ x, x = w2.alloc (.cells #[.int .u8 5] 5) := ⟨_, rfl⟩
  rw [← hwp] at hS ⊢
  obtain ⟨A9, hA9⟩ : ∃ x, x = (some ⟨w2.heap.size, 0, none⟩ : Option Addr) := ⟨_, rfl⟩
  rw [← hA9] at hS ⊢
  obtain ⟨q9, hq9⟩ : ∃ x : Nat, x = 1 := ⟨_, rfl⟩
  clear hwp hA9 b1 b2 hO1 hO2 hb2 hq9 q9
  obtain ⟨l0, c0, c1, c2, c3, c4⟩ := hO0.out.up hS.out.2.2
  obtain ⟨X0, hX0⟩ : ∃ X, X = [UInt8.ofNat 5] := ⟨_, rfl⟩
  have hX0l : X0.length = 1 := by rw [hX0]; rfl
  rw [← hX0] at hS
  have HX0 := Lib.hid hX0
  clear hX0
  have HL0 := Lib.hid hX0l
  clear hX0l
  go_wp2_with (first
    | (go_at_call 48; (with_reducible refine (HA.out _ _ _ _ _ _ h6.out (by have h0 := HL2.out; omega)).mono ?_); rintro e w7 ⟨A7, q7, d7, rfl, h7⟩; have h7 := Lib.hid h7; clear l0 c0 c1 c2 c3 c4; obtain ⟨l0, c0, c1, c2, c3, c4⟩ := hO0.out.up h7.out.2.2)
    | (go_at_call 46; (with_reducible refine (HT2.out _ _ _ _ _ _ h5.out (by have h0 := HL1.out; omega)).mono ?_); rintro e w6 ⟨A6, q6, d6, rfl, h6⟩; have h6 := Lib.hid h6; have HL2 : Hid (((X0 ++ textL nm) ++ textL tx).length ≤ 120) := (by show _ ≤ _; rw [List.length_append]; have h0 := HL1.out; have h8 := textL_le tx LT.out; omega); clear l0 c0 c1 c2 c3 c4; obtain ⟨l0, c0, c1, c2, c3, c4⟩ := hO0.out.up h6.out.2.2)
    | (go_at_call 46; (with_reducible refine (HT1.out _ _ _ _ _ _ hS.out (by have h0 := HL0.out; omega)).mono ?_); rintro e w5 ⟨A5, q5, d5, rfl, h5⟩; have h5 := Lib.hid h5; have HL1 : Hid ((X0 ++ textL nm).length ≤ 60) := (by show _ ≤ _; rw [List.length_append]; have h0 := HL0.out; have h8 := textL_le nm LN.out; omega); clear l0 c0 c1 c2 c3 c4; obtain ⟨l0, c0, c1, c2, c3, c4⟩ := hO0.out.up h5.out.2.2))
  go_ret2
  have h := h7.out
  rw [HX0.out] at h
  rw [HXX.out]
  exact put_gives rfl h
theorem pput_5y (z : Int) (nm tx a : List UInt8) (w : World) (ln : nm.length ≤ 48) (lt : tx.length ≤ 48) (la : a.length ≤ 48) (hz : -2147483647 ≤ z ∧ z ≤ 2147483647) (ca : a ≠ [])
    (HC : Hid (∀ W, Calls Tryd.prog 31 #[.agg #[.int .i64 5, .string (text nm), .string (text tx), .int .i64 z, .string (text a)]] W fun e w' => e = .returned (.int .i64 0) ∧ Below W.heap.size W w')) :
    Calls Tryd.prog 20 #[.agg #[.int .i64 5, .string (text nm), .string (text tx), .int .i64 z, .string (text a)]] w (GivesBytes ((([UInt8.ofNat 5] ++ textL nm) ++ textL tx) ++ atL 5 a) w) := by
  obtain ⟨XX, hXX⟩ : ∃ X, X = ((([UInt8.ofNat 5] ++ textL nm) ++ textL tx) ++ atL 5 a) := ⟨_, rfl⟩
  have HXX := Lib.hid hXX
  rw [← hXX]
  clear hXX
  obtain ⟨t1, h1⟩ : ∃ t, t = text nm := ⟨_, rfl⟩
  obtain ⟨t2, h2⟩ : ∃ t, t = text tx := ⟨_, rfl⟩
  obtain ⟨t3, h3⟩ : ∃ t, t = text a := ⟨_, rfl⟩
  have H1 := Lib.hid h1
  have H2 := Lib.hid h2
  have H3 := Lib.hid h3
  have LN := Lib.hid ln
  have LT := Lib.hid lt
  have LA := Lib.hid la
  have HK : Hid (∀ W, Calls Tryd.prog 45 #[.int .i64 5] W fun e w' => e = .returned (.tuple #[.string (text (wordO 5)), .int .i64 27]) ∧ Below W.heap.size W w') := fun W => pkind_yes 5 W ⟨by omega, by omega⟩
  obtain ⟨wd, hwd⟩ : ∃ t, t = text (wordO 5) := ⟨_, rfl⟩
  rw [← hwd] at HK
  clear hwd
  have k1 : bits .and .i64 27 1 = 1 := by decide +kernel
  have k2 : bits .and .i64 27 2 = 2 := by decide +kernel
  have k4 : bits .and .i64 27 4 = 0 := by decide +kernel
  have k8 : bits .and .i64 27 8 = 8 := by decide +kernel
  have HT1 : Hid (∀ w0 W A q c X, PutSt w0 W A q c X → X.length ≤ 1000 → Calls Tryd.prog 46 #[.slice A q c, .string t1] W (GivesApp w0 (X ++ textL nm))) := fun w0 W A q c X hS hX => by rw [h1]; exact pappText_any _ W A q c X nm hS (by omega) hX
  have HT2 : Hid (∀ w0 W A q c X, PutSt w0 W A q c X → X.length ≤ 1000 → Calls Tryd.prog 46 #[.slice A q c, .string t2] W (GivesApp w0 (X ++ textL tx))) := fun w0 W A q c X hS hX => by rw [h2]; exact pappText_any _ W A q c X tx hS (by omega) hX
  have HA : Hid (∀ w0 W A q c X, PutSt w0 W A q c X → X.length ≤ 1000 → Calls Tryd.prog 48 #[.slice A q c, .string t3, .int .i64 27] W (GivesApp w0 (X ++ atL 5 a))) := fun w0 W A q c X hS hX => by rw [h3]; exact pappAt_5 _ W A q c X a 27 hS (by decide +kernel) (by omega) hX
  clear ca
  rw [← h1, ← h2, ← h3] at HC ⊢
  clear h1 h2 h3 ln lt la
  clear hz
  have hO0 := Lib.hid (OpAt.new w 5 t1 t2 z t3)
  have hb0 : Below w.heap.size w (w.alloc (.cells #[.int .i64 5, .string t1, .string t2, .int .i64 z, .string t3] 24)) := (Below.refl _ _).alloc (Nat.le_refl _) _
  have a23 := fun w' => Tryd.opAgg w'
  have s23 := fun w' => Tryd.opSize w'
  go_enter Tryd.func20, Tryd.ntmps20
  go_upto_region 6 with (first
    | (go_at_call 31; (with_reducible refine (HC.out _).mono ?_); rintro e w1 ⟨rfl, b1⟩; have hO1 := Lib.hid (hO0.out.up b1); obtain ⟨l0', c0', c1', c2', c3', c4'⟩ := hO1.out)
    | (go_at_call 45; (with_reducible refine (HK.out _).mono ?_); rintro e w2 ⟨rfl, b2⟩; have hO2 := Lib.hid (hO1.out.up b2); have hb2 := Lib.hid (b1.trans (b2.mono b1.size)); obtain ⟨l9, p0, p1, p2, p3, p4⟩ := hO2.out))
  clear l0' c0' c1' c2' c3' c4' l9 p0 p1 p2 p3 p4
  have hS : Hid (PutSt (w.alloc (.cells #[.int .i64 5, .string t1, .string t2, .int .i64 z, .string t3] 24)) (w2.alloc (.cells #[.int .u8 5] 5)) (some ⟨w2.heap.size, 0, none⟩) 1 1 [UInt8.ofNat 5]) := by
    have hz2 := hb2.out.size
    exact ⟨rfl, ⟨rfl, .inr ⟨w2.heap.size, 1, #[.int .u8 5], rfl, hz2, heap_alloc_new w2 _, Nat.le_refl _, by simp [maxLen], rfl, rfl⟩⟩, hb2.out.alloc hz2 _⟩
  obtain ⟨wp, hwp⟩ : ∃ x, x = w2.alloc (.cells #[.int .u8 5] 5) := ⟨_, rfl⟩
  rw [← hwp] at hS ⊢
  obtain ⟨A9, hA9⟩ : ∃ x, x = (some ⟨w2.heap.size, 0, none⟩ : Option Addr) := ⟨_, rfl⟩
  rw [← hA9] at hS ⊢
  obtain ⟨q9, hq9⟩ : ∃ x : Nat, x = 1 := ⟨_, rfl⟩
  clear hwp hA9 b1 b2 hO1 hO2 hb2 hq9 q9
  obtain ⟨l0, c0, c1, c2, c3, c4⟩ := hO0.out.up hS.out.2.2
  obtain ⟨X0, hX0⟩ : ∃ X, X = [UInt8.ofNat 5] := ⟨_, rfl⟩
  have hX0l : X0.length = 1 := by rw [hX0]; rfl
  rw [← hX0] at hS
  have HX0 := Lib.hid hX0
  clear hX0
  have HL0 := Lib.hid hX0l
  clear hX0l
  go_wp2_with (first
    | (go_at_call 48; (with_reducible refine (HA.out _ _ _ _ _ _ h6.out (by have h0 := HL2.out; omega)).mono ?_); rintro e w7 ⟨A7, q7, d7, rfl, h7⟩; have h7 := Lib.hid h7; clear l0 c0 c1 c2 c3 c4; obtain ⟨l0, c0, c1, c2, c3, c4⟩ := hO0.out.up h7.out.2.2)
    | (go_at_call 46; (with_reducible refine (HT2.out _ _ _ _ _ _ h5.out (by have h0 := HL1.out; omega)).mono ?_); rintro e w6 ⟨A6, q6, d6, rfl, h6⟩; have h6 := Lib.hid h6; have HL2 : Hid (((X0 ++ textL nm) ++ textL tx).length ≤ 120) := (by show _ ≤ _; rw [List.length_append]; have h0 := HL1.out; have h8 := textL_le tx LT.out; omega); clear l0 c0 c1 c2 c3 c4; obtain ⟨l0, c0, c1, c2, c3, c4⟩ := hO0.out.up h6.out.2.2)
    | (go_at_call 46; (with_reducible refine (HT1.out _ _ _ _ _ _ hS.out (by have h0 := HL0.out; omega)).mono ?_); rintro e w5 ⟨A5, q5, d5, rfl, h5⟩; have h5 := Lib.hid h5; have HL1 : Hid ((X0 ++ textL nm).length ≤ 60) := (by show _ ≤ _; rw [List.length_append]; have h0 := HL0.out; have h8 := textL_le nm LN.out; omega); clear l0 c0 c1 c2 c3 c4; obtain ⟨l0, c0, c1, c2, c3, c4⟩ := hO0.out.up h5.out.2.2))
  go_ret2
  have h := h7.out
  rw [HX0.out] at h
  rw [HXX.out]
  exact put_gives rfl h
theorem pput_6 (z : Int) (nm tx a : List UInt8) (w : World) (ln : nm.length ≤ 48) (lt : tx.length ≤ 48) (la : a.length ≤ 48) (hz : -2147483647 ≤ z ∧ z ≤ 2147483647)
    (HC : Hid (∀ W, Calls Tryd.prog 31 #[.agg #[.int .i64 6, .string (text nm), .string (text tx), .int .i64 z, .string (text a)]] W fun e w' => e = .returned (.int .i64 0) ∧ Below W.heap.size W w')) :
    Calls Tryd.prog 20 #[.agg #[.int .i64 6, .string (text nm), .string (text tx), .int .i64 z, .string (text a)]] w (GivesBytes (([UInt8.ofNat 6] ++ textL nm) ++ a) w) := by
  obtain ⟨XX, hXX⟩ : ∃ X, X = (([UInt8.ofNat 6] ++ textL nm) ++ a) := ⟨_, rfl⟩
  have HXX := Lib.hid hXX
  rw [← hXX]
  clear hXX
  obtain ⟨t1, h1⟩ : ∃ t, t = text nm := ⟨_, rfl⟩
  obtain ⟨t2, h2⟩ : ∃ t, t = text tx := ⟨_, rfl⟩
  obtain ⟨t3, h3⟩ : ∃ t, t = text a := ⟨_, rfl⟩
  have H1 := Lib.hid h1
  have H2 := Lib.hid h2
  have H3 := Lib.hid h3
  have LN := Lib.hid ln
  have LT := Lib.hid lt
  have LA := Lib.hid la
  have HK : Hid (∀ W, Calls Tryd.prog 45 #[.int .i64 6] W fun e w' => e = .returned (.tuple #[.string (text (wordO 6)), .int .i64 41]) ∧ Below W.heap.size W w') := fun W => pkind_yes 6 W ⟨by omega, by omega⟩
  obtain ⟨wd, hwd⟩ : ∃ t, t = text (wordO 6) := ⟨_, rfl⟩
  rw [← hwd] at HK
  clear hwd
  have k1 : bits .and .i64 41 1 = 1 := by decide +kernel
  have k2 : bits .and .i64 41 2 = 0 := by decide +kernel
  have k4 : bits .and .i64 41 4 = 0 := by decide +kernel
  have k8 : bits .and .i64 41 8 = 8 := by decide +kernel
  have HT1 : Hid (∀ w0 W A q c X, PutSt w0 W A q c X → X.length ≤ 1000 → Calls Tryd.prog 46 #[.slice A q c, .string t1] W (GivesApp w0 (X ++ textL nm))) := fun w0 W A q c X hS hX => by rw [h1]; exact pappText_any _ W A q c X nm hS (by omega) hX
  have HA : Hid (∀ w0 W A q c X, PutSt w0 W A q c X → X.length ≤ 1000 → Calls Tryd.prog 48 #[.slice A q c, .string t3, .int .i64 41] W (GivesApp w0 (X ++ a))) := fun w0 W A q c X hS hX => by rw [h3]; exact pappAt_6 _ W A q c X a 41 32 hS (by decide +kernel) (by omega) (by omega) hX
  rw [← h1, ← h2, ← h3] at HC ⊢
  clear h1 h2 h3 ln lt la
  clear hz
  have hO0 := Lib.hid (OpAt.new w 6 t1 t2 z t3)
  have hb0 : Below w.heap.size w (w.alloc (.cells #[.int .i64 6, .string t1, .string t2, .int .i64 z, .string t3] 24)) := (Below.refl _ _).alloc (Nat.le_refl _) _
  have a23 := fun w' => Tryd.opAgg w'
  have s23 := fun w' => Tryd.opSize w'
  go_enter Tryd.func20, Tryd.ntmps20
  go_upto_region 6 with (first
    | (go_at_call 31; (with_reducible refine (HC.out _).mono ?_); rintro e w1 ⟨rfl, b1⟩; have hO1 := Lib.hid (hO0.out.up b1); obtain ⟨l0', c0', c1', c2', c3', c4'⟩ := hO1.out)
    | (go_at_call 45; (with_reducible refine (HK.out _).mono ?_); rintro e w2 ⟨rfl, b2⟩; have hO2 := Lib.hid (hO1.out.up b2); have hb2 := Lib.hid (b1.trans (b2.mono b1.size)); obtain ⟨l9, p0, p1, p2, p3, p4⟩ := hO2.out))
  clear l0' c0' c1' c2' c3' c4' l9 p0 p1 p2 p3 p4
  have hS : Hid (PutSt (w.alloc (.cells #[.int .i64 6, .string t1, .string t2, .int .i64 z, .string t3] 24)) (w2.alloc (.cells #[.int .u8 6] 5)) (some ⟨w2.heap.size, 0, none⟩) 1 1 [UInt8.ofNat 6]) := by
    have hz2 := hb2.out.size
    exact ⟨rfl, ⟨rfl, .inr ⟨w2.heap.size, 1, #[.int .u8 6], rfl, hz2, heap_alloc_new w2 _, Nat.le_refl _, by simp [maxLen], rfl, rfl⟩⟩, hb2.out.alloc hz2 _⟩
  obtain ⟨wp, hwp⟩ : ∃ x, x = w2.alloc (.cells #[.int .u8 6] 5) := ⟨_, rfl⟩
  rw [← hwp] at hS ⊢
  obtain ⟨A9, hA9⟩ : ∃ x, x = (some ⟨w2.heap.size, 0, none⟩ : Option Addr) := ⟨_, rfl⟩
  rw [← hA9] at hS ⊢
  obtain ⟨q9, hq9⟩ : ∃ x : Nat, x = 1 := ⟨_, rfl⟩
  clear hwp hA9 b1 b2 hO1 hO2 hb2 hq9 q9
  obtain ⟨l0, c0, c1, c2, c3, c4⟩ := hO0.out.up hS.out.2.2
  obtain ⟨X0, hX0⟩ : ∃ X, X = [UInt8.ofNat 6] := ⟨_, rfl⟩
  have hX0l : X0.length = 1 := by rw [hX0]; rfl
  rw [← hX0] at hS
  have HX0 := Lib.hid hX0
  clear hX0
  have HL0 := Lib.hid hX0l
  clear hX0l
  go_wp2_with (first
    | (go_at_call 48; (with_reducible refine (HA.out _ _ _ _ _ _ h5.out (by have h0 := HL1.out; omega)).mono ?_); rintro e w6 ⟨A6, q6, d6, rfl, h6⟩; have h6 := Lib.hid h6; clear l0 c0 c1 c2 c3 c4; obtain ⟨l0, c0, c1, c2, c3, c4⟩ := hO0.out.up h6.out.2.2)
    | (go_at_call 46; (with_reducible refine (HT1.out _ _ _ _ _ _ hS.out (by have h0 := HL0.out; omega)).mono ?_); rintro e w5 ⟨A5, q5, d5, rfl, h5⟩; have h5 := Lib.hid h5; have HL1 : Hid ((X0 ++ textL nm).length ≤ 60) := (by show _ ≤ _; rw [List.length_append]; have h0 := HL0.out; have h8 := textL_le nm LN.out; omega); clear l0 c0 c1 c2 c3 c4; obtain ⟨l0, c0, c1, c2, c3, c4⟩ := hO0.out.up h5.out.2.2))
  go_ret2
  have h := h6.out
  rw [HX0.out] at h
  rw [HXX.out]
  exact put_gives rfl h
theorem pput_7 (z : Int) (nm tx a : List UInt8) (w : World) (ln : nm.length ≤ 48) (lt : tx.length ≤ 48) (la : a.length ≤ 48) (hz : -2147483647 ≤ z ∧ z ≤ 2147483647)
    (HC : Hid (∀ W, Calls Tryd.prog 31 #[.agg #[.int .i64 7, .string (text nm), .string (text tx), .int .i64 z, .string (text a)]] W fun e w' => e = .returned (.int .i64 0) ∧ Below W.heap.size W w')) :
    Calls Tryd.prog 20 #[.agg #[.int .i64 7, .string (text nm), .string (text tx), .int .i64 z, .string (text a)]] w (GivesBytes [UInt8.ofNat 7] w) := by
  obtain ⟨XX, hXX⟩ : ∃ X, X = [UInt8.ofNat 7] := ⟨_, rfl⟩
  have HXX := Lib.hid hXX
  rw [← hXX]
  clear hXX
  obtain ⟨t1, h1⟩ : ∃ t, t = text nm := ⟨_, rfl⟩
  obtain ⟨t2, h2⟩ : ∃ t, t = text tx := ⟨_, rfl⟩
  obtain ⟨t3, h3⟩ : ∃ t, t = text a := ⟨_, rfl⟩
  have H1 := Lib.hid h1
  have H2 := Lib.hid h2
  have H3 := Lib.hid h3
  have LN := Lib.hid ln
  have LT := Lib.hid lt
  have LA := Lib.hid la
  have HK : Hid (∀ W, Calls Tryd.prog 45 #[.int .i64 7] W fun e w' => e = .returned (.tuple #[.string (text (wordO 7)), .int .i64 0]) ∧ Below W.heap.size W w') := fun W => pkind_yes 7 W ⟨by omega, by omega⟩
  obtain ⟨wd, hwd⟩ : ∃ t, t = text (wordO 7) := ⟨_, rfl⟩
  rw [← hwd] at HK
  clear hwd
  have k1 : bits .and .i64 0 1 = 0 := by decide +kernel
  have k2 : bits .and .i64 0 2 = 0 := by decide +kernel
  have k4 : bits .and .i64 0 4 = 0 := by decide +kernel
  have k8 : bits .and .i64 0 8 = 0 := by decide +kernel
  rw [← h1, ← h2, ← h3] at HC ⊢
  clear h1 h2 h3 ln lt la
  clear hz
  have hO0 := Lib.hid (OpAt.new w 7 t1 t2 z t3)
  have hb0 : Below w.heap.size w (w.alloc (.cells #[.int .i64 7, .string t1, .string t2, .int .i64 z, .string t3] 24)) := (Below.refl _ _).alloc (Nat.le_refl _) _
  have a23 := fun w' => Tryd.opAgg w'
  have s23 := fun w' => Tryd.opSize w'
  go_enter Tryd.func20, Tryd.ntmps20
  go_upto_region 6 with (first
    | (go_at_call 31; (with_reducible refine (HC.out _).mono ?_); rintro e w1 ⟨rfl, b1⟩; have hO1 := Lib.hid (hO0.out.up b1); obtain ⟨l0', c0', c1', c2', c3', c4'⟩ := hO1.out)
    | (go_at_call 45; (with_reducible refine (HK.out _).mono ?_); rintro e w2 ⟨rfl, b2⟩; have hO2 := Lib.hid (hO1.out.up b2); have hb2 := Lib.hid (b1.trans (b2.mono b1.size)); obtain ⟨l9, p0, p1, p2, p3, p4⟩ := hO2.out))
  clear l0' c0' c1' c2' c3' c4' l9 p0 p1 p2 p3 p4
  have hS : Hid (PutSt (w.alloc (.cells #[.int .i64 7, .string t1, .string t2, .int .i64 z, .string t3] 24)) (w2.alloc (.cells #[.int .u8 7] 5)) (some ⟨w2.heap.size, 0, none⟩) 1 1 [UInt8.ofNat 7]) := by
    have hz2 := hb2.out.size
    exact ⟨rfl, ⟨rfl, .inr ⟨w2.heap.size, 1, #[.int .u8 7], rfl, hz2, heap_alloc_new w2 _, Nat.le_refl _, by simp [maxLen], rfl, rfl⟩⟩, hb2.out.alloc hz2 _⟩
  obtain ⟨wp, hwp⟩ : ∃ x, x = w2.alloc (.cells #[.int .u8 7] 5) := ⟨_, rfl⟩
  rw [← hwp] at hS ⊢
  obtain ⟨A9, hA9⟩ : ∃ x, x = (some ⟨w2.heap.size, 0, none⟩ : Option Addr) := ⟨_, rfl⟩
  rw [← hA9] at hS ⊢
  obtain ⟨q9, hq9⟩ : ∃ x : Nat, x = 1 := ⟨_, rfl⟩
  clear hwp hA9 b1 b2 hO1 hO2 hb2 hq9 q9
  obtain ⟨l0, c0, c1, c2, c3, c4⟩ := hO0.out.up hS.out.2.2
  obtain ⟨X0, hX0⟩ : ∃ X, X = [UInt8.ofNat 7] := ⟨_, rfl⟩
  have hX0l : X0.length = 1 := by rw [hX0]; rfl
  rw [← hX0] at hS
  have HX0 := Lib.hid hX0
  clear hX0
  have HL0 := Lib.hid hX0l
  clear hX0l
  go_wp2_with (fail)
  go_ret2
  have h := hS.out
  rw [HX0.out] at h
  rw [HXX.out]
  exact put_gives rfl h
end
section
open Go.RowKit
abbrev opC (k : Int) (t1 t2 : ByteArray) (z : Int) (t3 : ByteArray) : Array Value := #[.int .i64 k, .string t1, .string t2, .int .i64 z, .string t3]
theorem Tryd.opZero (w : World) : Sem.run Tryd.prog (Instr.build 24 #[]) w = .ok (.agg #[.int .i64 0, .string { data := #[] }, .string { data := #[] }, .int .i64 0, .string { data := #[] }]) w := by kernel_rfl
structure RdSt (B g P R : Nat) (w0 W : World) (st : St) (k : Int) (t1 t2 : ByteArray) (z : Int) (t3 : ByteArray) : Prop where
  cur : CurB B W g st
  var : Blk W P 24 (opC k t1 t2 z t3)
  res : Blk W R 24 (opC 0 { data := #[] } { data := #[] } 0 { data := #[] })
  only : Only w0 W g
  sz : B ≤ W.heap.size
  pB : B ≤ P
  rB : B ≤ R
  gP : g ≠ P
  gR : g ≠ R
  PR : P ≠ R
  pw : w0.heap.size ≤ P
  rw : w0.heap.size ≤ R
section
variable {B g P R : Nat} {w0 W W' : World} {st st' : St} {k z : Int} {t1 t2 t3 : ByteArray}
theorem only_new (h : Only w0 W g) (p : Addr) (u : Value) (hp : w0.heap.size ≤ p.block) : Only w0 (W.setCell p u) g :=
  ⟨h.os, h.tape, h.output, by simpa [World.setCell] using h.size, fun i hi hn => (heap_setCell_other W p i u (by omega)).trans (h.block i hi hn)⟩
theorem RdSt.call (h : RdSt B g P R w0 W st k t1 t2 z t3) (hc : CurB B W' g st') (ho : Only W W' g) : RdSt B g P R w0 W' st' k t1 t2 z t3 :=
  ⟨hc, h.var.only ho h.gP.symm, h.res.only ho h.gR.symm, only_trans h.only ho, Nat.le_trans h.sz ho.size, h.pB, h.rB, h.gP, h.gR, h.PR, h.pw, h.rw⟩
theorem RdSt.below (h : RdSt B g P R w0 W st k t1 t2 z t3) (hb : Below W.heap.size W W') : RdSt B g P R w0 W' st k t1 t2 z t3 :=
  h.call (h.cur.below hb h.sz) (only_below hb g)
theorem RdSt.keep (h : RdSt B g P R w0 W st k t1 t2 z t3) (i : Nat) (u : Value) : CurB B (W.setCell ⟨P, i, none⟩ u) g st ∧ Blk (W.setCell ⟨P, i, none⟩ u) R 24 (opC 0 { data := #[] } { data := #[] } 0 { data := #[] }) ∧ Only w0 (W.setCell ⟨P, i, none⟩ u) g ∧ B ≤ (W.setCell ⟨P, i, none⟩ u).heap.size := by
  refine ⟨h.cur.keep (heap_setCell_other W ⟨P, i, none⟩ g u h.gP) (fun p hp => World.cell?_setCell_other _ _ _ _ ?_), h.res.far h.PR.symm u, only_new h.only ⟨P, i, none⟩ u h.pw, by simpa [World.setCell] using h.sz⟩
  intro e
  have := congrArg Addr.block e
  have := h.pB
  simp only at *
  omega
theorem RdSt.set1 (h : RdSt B g P R w0 W st k t1 t2 z t3) (t : ByteArray) : RdSt B g P R w0 (W.setCell ⟨P, 1, none⟩ (.string t)) st k t t2 z t3 :=
  have q := h.keep 1 (.string t)
  ⟨q.1, h.var.set_ 1 _, q.2.1, q.2.2.1, q.2.2.2, h.pB, h.rB, h.gP, h.gR, h.PR, h.pw, h.rw⟩
theorem RdSt.set2 (h : RdSt B g P R w0 W st k t1 t2 z t3) (t : ByteArray) : RdSt B g P R w0 (W.setCell ⟨P, 2, none⟩ (.string t)) st k t1 t z t3 :=
  have q := h.keep 2 (.string t)
  ⟨q.1, h.var.set_ 2 _, q.2.1, q.2.2.1, q.2.2.2, h.pB, h.rB, h.gP, h.gR, h.PR, h.pw, h.rw⟩
theorem RdSt.set3 (h : RdSt B g P R w0 W st k t1 t2 z t3) (y : Int) : RdSt B g P R w0 (W.setCell ⟨P, 3, none⟩ (.int .i64 y)) st k t1 t2 y t3 :=
  have q := h.keep 3 (.int .i64 y)
  ⟨q.1, h.var.set_ 3 _, q.2.1, q.2.2.1, q.2.2.2, h.pB, h.rB, h.gP, h.gR, h.PR, h.pw, h.rw⟩
theorem RdSt.set4 (h : RdSt B g P R w0 W st k t1 t2 z t3) (t : ByteArray) : RdSt B g P R w0 (W.setCell ⟨P, 4, none⟩ (.string t)) st k t1 t2 z t :=
  have q := h.keep 4 (.string t)
  ⟨q.1, h.var.set_ 4 _, q.2.1, q.2.2.1, q.2.2.2, h.pB, h.rB, h.gP, h.gR, h.PR, h.pw, h.rw⟩
def RdC (P R : Nat) (W : World) (k : Int) (t1 t2 : ByteArray) (z : Int) (t3 : ByteArray) : Prop :=
  P < W.heap.size ∧ R < W.heap.size ∧ W.cell? ⟨P, 0, none⟩ = some (.int .i64 k) ∧ W.cell? ⟨P, 1, none⟩ = some (.string t1) ∧ W.cell? ⟨P, 2, none⟩ = some (.string t2) ∧ W.cell? ⟨P, 3, none⟩ = some (.int .i64 z) ∧ W.cell? ⟨P, 4, none⟩ = some (.string t3) ∧ (∀ i, W.frozen? ⟨P, i, none⟩ = false) ∧
    W.cell? ⟨R, 0, none⟩ = some (.int .i64 0) ∧ W.cell? ⟨R, 1, none⟩ = some (.string { data := #[] }) ∧ W.cell? ⟨R, 2, none⟩ = some (.string { data := #[] }) ∧ W.cell? ⟨R, 3, none⟩ = some (.int .i64 0) ∧ W.cell? ⟨R, 4, none⟩ = some (.string { data := #[] }) ∧ (∀ i, W.frozen? ⟨R, i, none⟩ = false)
theorem RdSt.cells (h : RdSt B g P R w0 W st k t1 t2 z t3) : RdC P R W k t1 t2 z t3 :=
  ⟨h.var.lt, h.res.lt, h.var.cell 0, h.var.cell 1, h.var.cell 2, h.var.cell 3, h.var.cell 4, h.var.frozen, h.res.cell 0, h.res.cell 1, h.res.cell 2, h.res.cell 3, h.res.cell 4, h.res.frozen⟩
theorem RdSt.end_ {E : World} (h : RdSt B g P R w0 W st k t1 t2 z t3) {v0 v1 v2 v3 v4 : Value} (hE : E = ((((W.setCell ⟨R, 0, none⟩ v0).setCell ⟨R, 1, none⟩ v1).setCell ⟨R, 2, none⟩ v2).setCell ⟨R, 3, none⟩ v3).setCell ⟨R, 4, none⟩ v4) :
    (E.cell? ⟨R, 0, none⟩ = some v0 ∧ E.cell? ⟨R, 1, none⟩ = some v1 ∧ E.cell? ⟨R, 2, none⟩ = some v2 ∧ E.cell? ⟨R, 3, none⟩ = some v3 ∧ E.cell? ⟨R, 4, none⟩ = some v4) ∧ CurB B E g st ∧ Only w0 E g := by
  have K := ((((h.res.set_ 0 v0).set_ 1 v1).set_ 2 v2).set_ 3 v3).set_ 4 v4
  have hs : ∀ (V : World) (i : Nat) (u : Value), CurB B V g st → CurB B (V.setCell ⟨R, i, none⟩ u) g st := fun V i u hc => by
    refine hc.keep (heap_setCell_other V ⟨R, i, none⟩ g u h.gR) (fun p hp => World.cell?_setCell_other _ _ _ _ ?_)
    intro e
    have := congrArg Addr.block e
    have := h.rB
    simp only at *
    omega
  have hc := hs _ 4 v4 (hs _ 3 v3 (hs _ 2 v2 (hs _ 1 v1 (hs _ 0 v0 h.cur))))
  have ho := only_new (only_new (only_new (only_new (only_new h.only ⟨R, 0, none⟩ v0 h.rw) ⟨R, 1, none⟩ v1 h.rw) ⟨R, 2, none⟩ v2 h.rw) ⟨R, 3, none⟩ v3 h.rw) ⟨R, 4, none⟩ v4 h.rw
  rw [← hE] at K hc ho
  exact ⟨⟨K.cell 0, K.cell 1, K.cell 2, K.cell 3, K.cell 4⟩, hc, ho⟩
end
end
end Go.Proofs.YtinphkflfdpaeaaDoor
