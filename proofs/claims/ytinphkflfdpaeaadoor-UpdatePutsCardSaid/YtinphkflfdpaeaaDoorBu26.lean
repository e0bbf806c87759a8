/- Lemmas under the proofs of this place: UpPlain, OpPCheck, OpRPut. No statement is proved here. -/
import Derived.Test.YtinphkflfdpaeaaDoorBu23
import Derived.Test.YtinphkflfdpaeaaDoorBu17
import Derived.Test.YtinphkflfdpaeaaDoorBu09
import Derived.Test.YtinphkflfdpaeaaDoorBu14
set_option linter.unusedSimpArgs false
set_option linter.unusedVariables false
set_option maxRecDepth 100000
set_option maxHeartbeats 16000000
namespace Go.Proofs.YtinphkflfdpaeaaDoor
section
structure Upd where
  author : Int
  preds : List Bs
  op : Opn
deriving DecidableEq
def Upd.zero : Upd := ⟨0, [], Opn.zero⟩
structure Upd.Ok (u : Upd) : Prop where
  author : 0 ≤ u.author ∧ u.author ≤ 255
  few : u.preds.length ≤ 8
  rise : risesL u.preds = true
  op : u.op.May
def Upd.check (u : Upd) : Int := if u.author < 0 ∨ 255 < u.author then 1 else if 8 < u.preds.length then 4 else if risesL u.preds = true ∧ u.op.mayB = true then 0 else 1
theorem Upd.check_ok {u : Upd} : u.check = 0 ↔ u.Ok := by
  unfold Upd.check
  constructor
  · intro h
    split at h
    · cases h
    · split at h
      · cases h
      · split at h
        · rename_i h1 h2 h3
          exact ⟨by omega, by omega, h3.1, (mayB_iff _).1 h3.2⟩
        · cases h
  · intro h
    have h1 := h.author
    have h2 := h.few
    rw [if_neg (by omega), if_neg (by omega), if_pos ⟨h.rise, (mayB_iff _).2 h.op⟩]
def Upd.bytes (u : Upd) : List UInt8 := UInt8.ofNat u.author.toNat :: UInt8.ofNat u.preds.length :: (u.preds.flatten ++ u.op.bytes)
theorem preds_right {u : Upd} (h : u.Ok) : ∀ x ∈ u.preds, x.length = 32 := fun x hx => by
  have := ((risesL_iff _).1 h.rise).1 x hx
  simpa [rightB] using this
theorem flat_length : ∀ (l : List Bs), (∀ x ∈ l, x.length = 32) → l.flatten.length = 32 * l.length
  | [], _ => rfl
  | x :: l, h => by
    have h1 := flat_length l (fun y hy => h y (by simp [hy]))
    have h2 := h x (by simp)
    simp only [List.flatten_cons, List.length_append, List.length_cons, h1, h2]
    omega
theorem Upd.bytes_len {u : Upd} (h : u.Ok) : u.bytes.length ≤ 354 := by
  have h1 := flat_length _ (preds_right h)
  have h2 := Go.Proofs.YtinphkflfdpaeaaDoor.bytes_len h.op
  have h3 := h.few
  unfold Upd.bytes
  simp only [List.length_cons, List.length_append, h1]
  omega
def takesI : Nat → St → St × List Bs
  | 0, st => (st, [])
  | k + 1, st => ((stepTake 32 (takesI k st).1).1, (takesI k st).2 ++ [(stepTake 32 (takesI k st).1).2])
theorem takesI_len : ∀ (k : Nat) (st : St), (takesI k st).2.length = k
  | 0, _ => rfl
  | k + 1, st => by
    show ((takesI k st).2 ++ [_]).length = _
    rw [List.length_append, takesI_len k st]
    rfl
theorem takesI_app (l : List Bs) (r : List UInt8) (h : ∀ x ∈ l, x.length = 32) : ∀ k, k ≤ l.length → takesI k (some (l.flatten ++ r)) = (some ((l.drop k).flatten ++ r), l.take k)
  | 0, _ => by simp [takesI]
  | k + 1, hk => by
    have ih := takesI_app l r h k (by omega)
    have hkl : k < l.length := by omega
    have e : l.drop k = l[k] :: l.drop (k + 1) := List.drop_eq_getElem_cons hkl
    have h32 := h l[k] (List.getElem_mem hkl)
    show ((stepTake 32 (takesI k _).1).1, (takesI k _).2 ++ [(stepTake 32 (takesI k _).1).2]) = _
    rw [ih]
    simp only []
    rw [e, List.flatten_cons, List.append_assoc, take_app l[k] _ 32 (by rw [h32]; rfl)]
    simp only []
    rw [List.take_succ_eq_append_getElem hkl]
def readU (b : List UInt8) : St × Nat × List Bs :=
  ((takesI (stepByte (stepByte (some b)).1).2 (stepByte (stepByte (some b)).1).1).1, (stepByte (some b)).2, (takesI (stepByte (stepByte (some b)).1).2 (stepByte (stepByte (some b)).1).1).2)
theorem readU_bytes {u : Upd} (h : u.Ok) : readU u.bytes = (some u.op.bytes, u.author.toNat, u.preds) := by
  have h1 := h.author
  have h2 := h.few
  unfold readU Upd.bytes
  rw [byte_cons]
  simp only []
  rw [byte_cons]
  simp only []
  rw [ofNat_toNat _ (by omega), ofNat_toNat _ (by omega), takesI_app _ _ (preds_right h) _ (Nat.le_refl _)]
  simp
theorem Upd.bytes_inj {u v : Upd} (hu : u.Ok) (hv : v.Ok) (h : u.bytes = v.bytes) : u = v := by
  have h1 := readU_bytes hu
  rw [h, readU_bytes hv] at h1
  simp only [Prod.mk.injEq, Option.some.injEq] at h1
  obtain ⟨e1, e2, e3⟩ := h1
  have e4 := Go.Proofs.YtinphkflfdpaeaaDoor.bytes_inj hv.op hu.op e1
  have a1 := hu.author
  have a2 := hv.author
  obtain ⟨a, p, o⟩ := u
  obtain ⟨b, q, x⟩ := v
  simp only at e2 e3 e4 a1 a2
  rw [e3, e4, show a = b by omega]
def GetsU (b : List UInt8) : Option Upd → Prop
  | some u => u.Ok ∧ u.bytes = b
  | none => ∀ u : Upd, u.Ok → u.bytes ≠ b
theorem GetsU.one {b : List UInt8} {r s : Option Upd} (h : GetsU b r) (h' : GetsU b s) : r = s := by
  rcases r with _ | u <;> rcases s with _ | v
  · rfl
  · exact absurd h'.2 (h _ h'.1)
  · exact absurd h.2 (h' _ h.1)
  · rw [Upd.bytes_inj h.1 h'.1 (h.2.trans h'.2.symm)]
theorem getsU_ex (b : List UInt8) : ∃ r, GetsU b r := by
  by_cases h : ∃ u : Upd, u.Ok ∧ u.bytes = b
  · obtain ⟨u, h⟩ := h
    exact ⟨some u, h⟩
  · exact ⟨none, fun u h1 h2 => h ⟨u, h1, h2⟩⟩
theorem getsU_long {b : List UInt8} (h : 384 < b.length) : GetsU b none := fun u hu e => by
  have := Upd.bytes_len hu
  rw [e] at this
  omega
theorem getsU_bad {b : List UInt8} {a : Nat} {l : List Bs} (h : readU b = (none, a, l)) : GetsU b none := fun u hu e => by
  rw [← e, readU_bytes hu] at h
  simp at h
theorem getsU_op {b r : List UInt8} {a : Nat} {l : List Bs} (h : readU b = (some r, a, l)) (hr : GetsO r none) : GetsU b none := fun u hu e => by
  rw [← e, readU_bytes hu] at h
  simp only [Prod.mk.injEq, Option.some.injEq] at h
  have h2 := Begins.put hu.op []
  rw [List.append_nil] at h2
  rw [h.1] at h2
  exact hr _ _ h2
theorem getsU_no {b r : List UInt8} {a k : Nat} {l : List Bs} {o : Opn} (h : readU b = (some r, a, l)) (hr : GetsO r (some (o, k))) (hn : Upd.check ⟨a, l, o⟩ ≠ 0 ∨ Upd.bytes ⟨a, l, o⟩ ≠ b) : GetsU b none := fun u hu e => by
  have h9 := h
  rw [← e, readU_bytes hu] at h9
  simp only [Prod.mk.injEq, Option.some.injEq] at h9
  have h2 := Begins.put hu.op []
  rw [List.append_nil, h9.1] at h2
  have h3 := (Begins.one h2 hr).1
  have ha := hu.author
  have e2 : u = ⟨a, l, o⟩ := by
    obtain ⟨a', l', o'⟩ := u
    simp only at h9 h3 ha
    rw [h9.2.2, h3, show a' = (a : Int) by omega]
  rw [← e2] at hn
  rcases hn with hn | hn
  · exact hn (Upd.check_ok.2 hu)
  · exact hn e
theorem getsU_yes {b : List UInt8} {u : Upd} (h : u.check = 0) (hb : u.bytes = b) : GetsU b (some u) := ⟨Upd.check_ok.1 h, hb⟩
end
section
open Go.RowKit
theorem pcheck_at (k z hs : Int) (wd t1 t2 t3 : ByteArray) (c : UInt8) (l : List UInt8) (b1 b2 b3 b4 : Bool) (w : World) (hwd : wd.toList = c :: l)
    (HK : Hid (∀ W, Calls Tryd.prog 45 #[.int .i64 k] W fun e w' => e = .returned (.tuple #[.string wd, .int .i64 hs]) ∧ Below W.heap.size W w'))
    (H1 : Hid (∀ W, Calls Tryd.prog 58 #[.string t1, .int .i64 hs] W fun e w' => e = .returned (.bool b1) ∧ Below W.heap.size W w'))
    (H2 : Hid (∀ W, Calls Tryd.prog 59 #[.string t2, .int .i64 hs] W fun e w' => e = .returned (.bool b2) ∧ Below W.heap.size W w'))
    (H3 : Hid (∀ W, Calls Tryd.prog 60 #[.int .i64 z, .int .i64 hs] W fun e w' => e = .returned (.bool b3) ∧ Below W.heap.size W w'))
    (H4 : Hid (∀ W, Calls Tryd.prog 61 #[.string t3, .int .i64 hs] W fun e w' => e = .returned (.bool b4) ∧ Below W.heap.size W w')) :
    Calls Tryd.prog 31 #[.agg #[.int .i64 k, .string t1, .string t2, .int .i64 z, .string t3]] w fun e w' => e = .returned (.int .i64 (if (b1 && b2 && b3 && b4) = true then 0 else 1)) ∧ Below w.heap.size w w' := by
  have hO := Lib.hid (OpAt.new w k t1 t2 z t3)
  have hb0 : Below w.heap.size w (w.alloc (.cells #[.int .i64 k, .string t1, .string t2, .int .i64 z, .string t3] 24)) := (Below.refl _ _).alloc (Nat.le_refl _) _
  cases b1 <;> cases b2 <;> cases b3 <;> cases b4
  all_goals
    go_enter Tryd.func31, Tryd.ntmps31
    go_wp2_with (first
      | (go_at_call 45; (with_reducible refine (HK.out _).mono ?_); rintro e w1 ⟨rfl, d1⟩; have hO1 := Lib.hid (hO.out.up d1); have B1 := Lib.hid (hb0.trans (d1.mono hb0.size)); obtain ⟨l0, c0, c1, c2, c3, c4⟩ := hO1.out)
      | (go_at_call 58; (with_reducible refine (H1.out _).mono ?_); rintro e w2 ⟨rfl, d2⟩; have hO2 := Lib.hid (hO1.out.up d2); have B2 := Lib.hid (B1.out.trans (d2.mono B1.out.size)); clear l0 c0 c1 c2 c3 c4; obtain ⟨l0, c0, c1, c2, c3, c4⟩ := hO2.out)
      | (go_at_call 59; (with_reducible refine (H2.out _).mono ?_); rintro e w3 ⟨rfl, d3⟩; have hO3 := Lib.hid (hO2.out.up d3); have B3 := Lib.hid (B2.out.trans (d3.mono B2.out.size)); clear l0 c0 c1 c2 c3 c4; obtain ⟨l0, c0, c1, c2, c3, c4⟩ := hO3.out)
      | (go_at_call 60; (with_reducible refine (H3.out _).mono ?_); rintro e w4 ⟨rfl, d4⟩; have hO4 := Lib.hid (hO3.out.up d4); have B4 := Lib.hid (B3.out.trans (d4.mono B3.out.size)); clear l0 c0 c1 c2 c3 c4; obtain ⟨l0, c0, c1, c2, c3, c4⟩ := hO4.out)
      | (go_at_call 61; (with_reducible refine (H4.out _).mono ?_); rintro e w5 ⟨rfl, d5⟩; have B5 := Lib.hid (B4.out.trans (d5.mono B4.out.size))))
    go_ret
    exact ⟨rfl, by first | exact B5.out | exact B4.out | exact B3.out | exact B2.out | exact B1.out | exact B5.out.drew | exact B4.out.drew | exact B3.out.drew | exact B2.out.drew⟩
end
section
open Go.RowKit
theorem rput_1n (z : Int) (nm tx a : List UInt8) (w : World) (ln : nm.length ≤ 48) (lt : tx.length ≤ 48) (la : a.length ≤ 48) (hz : -2147483647 ≤ z ∧ z ≤ 2147483647) (c0 : z < 0)
    (HC : Hid (∀ W, Calls Tryd.prog 44 #[.agg #[.int .i64 1, .string (text nm), .string (text tx), .int .i64 z, .string (text a)]] W fun e w' => e = .returned (.bool true) ∧ Below W.heap.size W w')) :
    Calls Tryd.prog 21 #[.agg #[.int .i64 1, .string (text nm), .string (text tx), .int .i64 z, .string (text a)]] w (GivesBytes ((([UInt8.ofNat 1] ++ textL nm) ++ signL z) ++ a) w) := by
  obtain ⟨XX, hXX⟩ : ∃ X, X = ((([UInt8.ofNat 1] ++ textL nm) ++ signL z) ++ a) := ⟨_, rfl⟩
  have HXX := Lib.hid hXX
  rw [← hXX]
  clear hXX
  obtain ⟨t1, h1⟩ : ∃ t, t = text nm := ⟨_, rfl⟩
  obtain ⟨t2, h2⟩ : ∃ t, t = text tx := ⟨_, rfl⟩
  obtain ⟨t3, h3⟩ : ∃ t, t = text a := ⟨_, rfl⟩
  have H1 := Lib.hid h1
  have H2 := Lib.hid h2
  have H3 := Lib.hid h3
  have LN := Lib.hid ln
  have LT := Lib.hid lt
  have LA := Lib.hid la
  have HH : Hid (∀ W, Calls Tryd.prog 49 #[.int .i64 1] W fun e w' => e = .returned (.tuple #[.bool true, .bool false, .bool true, .bool false, .bool true]) ∧ Below W.heap.size W w') := fun W => refHas_any 1 W
  obtain ⟨n1, g1⟩ : ∃ n, n = nm.length := ⟨_, rfl⟩
  obtain ⟨m1, e1⟩ : ∃ n, n = (textL nm).length := ⟨_, rfl⟩
  have hm1 : m1 ≤ 60 := by rw [e1]; unfold textL; rw [List.length_append]; have := putL_len5 nm.length (by omega); omega
  have HT1 : Hid (∀ W A c, RB W W.heap.size A nm → Calls Tryd.prog 50 #[.slice A n1 c] W fun e w' => ∃ A4 c4, e = .returned (.tuple #[.slice A4 m1 c4, .int .i64 0]) ∧ Hid (Own w' W.heap.size A4 (textL nm) c4) ∧ Hid (Below W.heap.size W w')) := fun W A c hr => by
    rw [g1, e1]
    refine (refText_yes nm A c 0 W hr (by omega)).mono fun e w' hh => ?_
    obtain ⟨A4, c4, q1, q2, q3⟩ := hh
    exact ⟨A4, c4, q1, q2, q3⟩
  have G1 := Lib.hid g1
  have E1 := Lib.hid e1
  clear g1 e1
  obtain ⟨n, hn⟩ : ∃ n, n = z.natAbs := ⟨_, rfl⟩
  obtain ⟨F, hF⟩ : ∃ F, F = fixL 4 n := ⟨_, rfl⟩
  have hFl : F.length = 4 := by rw [hF]; exact fixL_length 4 n
  have HX : Hid (∀ W, Calls Tryd.prog 51 #[.int .i64 (n : Int), .int .i64 4] W fun e w' => ∃ A4 c4, e = .returned (.tuple #[.slice A4 4 c4, .int .i64 0]) ∧ Hid (Own w' W.heap.size A4 F c4) ∧ Hid (Below W.heap.size W w')) := fun W => by
    rw [hF]
    refine (refFix_any n 4 W (by omega) (by omega) (by omega)).mono fun e w' hh => ?_
    obtain ⟨A4, c4, q1, q2, q3⟩ := hh.1 (by omega)
    rw [fixL_length] at q1
    exact ⟨A4, c4, q1, q2, q3⟩
  have d0 : decide (z < 0) = true := decide_eq_true c0
  have y0 : IntKind.i64.wrap (-z) = (n : Int) := by rw [IntWalk.i64_in _ (by omega)]; omega
  have HG : Hid (signL z = [1] ++ F) := by show _ = _; rw [hF, hn]; unfold signL; rw [if_pos c0]; rfl
  have HFl := Lib.hid hFl
  clear hF hFl
  clear hn
  rw [← h1, ← h2, ← h3] at HC ⊢
  clear h1 h2 h3 ln lt la
  clear c0 hz
  have hO0 := Lib.hid (OpAt.new w 1 t1 t2 z t3)
  have hb0 : Below w.heap.size w (w.alloc (.cells #[.int .i64 1, .string t1, .string t2, .int .i64 z, .string t3] 24)) := (Below.refl _ _).alloc (Nat.le_refl _) _
  have a23 := fun w' => Tryd.opAgg w'
  have s23 := fun w' => Tryd.opSize w'
  go_enter Tryd.func21, Tryd.ntmps21
  go_upto_region 5 with (first
    | (go_at_call 44; (with_reducible refine (HC.out _).mono ?_); rintro e w1 ⟨rfl, b1⟩; have hO1 := Lib.hid (hO0.out.up b1); obtain ⟨l0', c0', c1', c2', c3', c4'⟩ := hO1.out)
    | (go_at_call 49; (with_reducible refine (HH.out _).mono ?_); rintro e w2 ⟨rfl, b2⟩; have hO2 := Lib.hid (hO1.out.up b2); have hb2 := Lib.hid (b1.trans (b2.mono b1.size)); obtain ⟨l9, p0, p1, p2, p3, p4⟩ := hO2.out))
  clear l0' c0' c1' c2' c3' c4' l9 p0 p1 p2 p3 p4
  have hS : Hid (PutSt (w.alloc (.cells #[.int .i64 1, .string t1, .string t2, .int .i64 z, .string t3] 24)) (w2.alloc (.cells #[.int .u8 1] 5)) (some ⟨w2.heap.size, 0, none⟩) 1 1 [UInt8.ofNat 1]) := by
    have hz2 := hb2.out.size
    exact ⟨rfl, ⟨rfl, .inr ⟨w2.heap.size, 1, #[.int .u8 1], rfl, hz2, heap_alloc_new w2 _, Nat.le_refl _, by simp [maxLen], rfl, rfl⟩⟩, hb2.out.alloc hz2 _⟩
  obtain ⟨wp, hwp⟩ : ∃ x, x = w2.alloc (.cells #[.int .u8 1] 5) := ⟨_, rfl⟩
  rw [← hwp] at hS ⊢
  obtain ⟨A9, hA9⟩ : ∃ x, x = (some ⟨w2.heap.size, 0, none⟩ : Option Addr) := ⟨_, rfl⟩
  rw [← hA9] at hS ⊢
  obtain ⟨q9, hq9⟩ : ∃ x : Nat, x = 1 := ⟨_, rfl⟩
  clear hwp hA9 b1 b2 hO1 hO2 hb2 hq9 q9
  obtain ⟨l0, c0, c1, c2, c3, c4⟩ := hO0.out.up hS.out.2.2
  obtain ⟨X0, hX0⟩ : ∃ X, X = [UInt8.ofNat 1] := ⟨_, rfl⟩
  have hX0l : X0.length = 1 := by rw [hX0]; rfl
  rw [← hX0] at hS
  have HX0 := Lib.hid hX0
  clear hX0
  have HL0 := Lib.hid hX0l
  clear hX0l
  go_wp2_with (first
    | (at_builtin; refine append_str rfl (.tmp 88) (.tmp 90) rfl rfl h8.out (by rw [← H3.out]; rfl) (by have h0 := HL2.out; have h2 := LA.out; omega) ?_; intro A10 q10 e10 w10 h10)
    | (at_builtin; refine append_more rfl (.tmp 72) (.tmp 73) rfl rfl h7.out rfl r7.out HFl.out.symm (by have h0 := HL1.out; have h2 := HFl.out; rw [List.length_append]; simp only [List.length_singleton]; omega) ?_; intro A8 q8 e8 w8 h8; have HL2 : Hid ((((X0 ++ textL nm) ++ [1]) ++ F).length ≤ 180) := (by show _ ≤ _; rw [List.length_append, List.length_append]; have h0 := HL1.out; have h2 := HFl.out; simp only [List.length_singleton]; omega); clear l0 c0 c1 c2 c3 c4; obtain ⟨l0, c0, c1, c2, c3, c4⟩ := hO0.out.up h8.out.2.2)
    | (at_builtin; refine append_one rfl (.tmp 69) (.tmp 71) rfl 1 rfl hS4.out rfl rfl (by have h0 := HL1.out; omega) ?_; intro A7 q7 e7 w7 h7 f7; have r7 := Lib.hid (f7.out _ _ (own_rb ho4.out) (fun ad e e2 => by have h1 := own_newO ho4.out ad e; have h2 := (h5.out.2.1.lt _ e2).2; omega)))
    | (go_at_call 51; (with_reducible refine (HX.out _).mono ?_); rintro e y4 ⟨B4, d4, rfl, ho4, hb4⟩; have hS4 := Lib.hid (h5.out.up hb4.out))
    | (at_builtin; refine append_more rfl (.tmp 43) (.tmp 44) rfl rfl hS1.out rfl (own_rb ho1.out) E1.out (by have h0 := HL0.out; have h8 := textL_le nm LN.out; omega) ?_; intro A5 q5 e5 w5 h5; have HL1 : Hid ((X0 ++ textL nm).length ≤ 60) := (by show _ ≤ _; rw [List.length_append]; have h0 := HL0.out; have h8 := textL_le nm LN.out; omega); clear l0 c0 c1 c2 c3 c4; obtain ⟨l0, c0, c1, c2, c3, c4⟩ := hO0.out.up h5.out.2.2)
    | (go_at_call 50; (with_reducible refine hT1.out.mono ?_); rintro e x1 ⟨B1, d1', rfl, ho1, hv1⟩; have hS1 := Lib.hid (hS.out.up (hb1.out.trans (hv1.out.mono hb1.out.size))))
    | (refine wpList_bytes_letter rfl (.tmp 38) rfl (some 39) rfl nm n1 G1.out (by have := LN.out; omega) (by rw [← H1.out]; rfl) ?_; intro g1 c1' v1 hg1 hc1 hm1' hr1 hb1; have hT1 := Lib.hid (HT1.out v1 (some ⟨g1, 0, none⟩) c1' hr1.out)))
  go_ret2
  have h := h10.out
  rw [HX0.out] at h
  rw [HXX.out, HG.out, ← List.append_assoc]
  exact put_gives rfl h
theorem rput_1p (z : Int) (nm tx a : List UInt8) (w : World) (ln : nm.length ≤ 48) (lt : tx.length ≤ 48) (la : a.length ≤ 48) (hz : -2147483647 ≤ z ∧ z ≤ 2147483647) (c0 : ¬ z < 0)
    (HC : Hid (∀ W, Calls Tryd.prog 44 #[.agg #[.int .i64 1, .string (text nm), .string (text tx), .int .i64 z, .string (text a)]] W fun e w' => e = .returned (.bool true) ∧ Below W.heap.size W w')) :
    Calls Tryd.prog 21 #[.agg #[.int .i64 1, .string (text nm), .string (text tx), .int .i64 z, .string (text a)]] w (GivesBytes ((([UInt8.ofNat 1] ++ textL nm) ++ signL z) ++ a) w) := by
  obtain ⟨XX, hXX⟩ : ∃ X, X = ((([UInt8.ofNat 1] ++ textL nm) ++ signL z) ++ a) := ⟨_, rfl⟩
  have HXX := Lib.hid hXX
  rw [← hXX]
  clear hXX
  obtain ⟨t1, h1⟩ : ∃ t, t = text nm := ⟨_, rfl⟩
  obtain ⟨t2, h2⟩ : ∃ t, t = text tx := ⟨_, rfl⟩
  obtain ⟨t3, h3⟩ : ∃ t, t = text a := ⟨_, rfl⟩
  have H1 := Lib.hid h1
  have H2 := Lib.hid h2
  have H3 := Lib.hid h3
  have LN := Lib.hid ln
  have LT := Lib.hid lt
  have LA := Lib.hid la
  have HH : Hid (∀ W, Calls Tryd.prog 49 #[.int .i64 1] W fun e w' => e = .returned (.tuple #[.bool true, .bool false, .bool true, .bool false, .bool true]) ∧ Below W.heap.size W w') := fun W => refHas_any 1 W
  obtain ⟨n1, g1⟩ : ∃ n, n = nm.length := ⟨_, rfl⟩
  obtain ⟨m1, e1⟩ : ∃ n, n = (textL nm).length := ⟨_, rfl⟩
  have hm1 : m1 ≤ 60 := by rw [e1]; unfold textL; rw [List.length_append]; have := putL_len5 nm.length (by omega); omega
  have HT1 : Hid (∀ W A c, RB W W.heap.size A nm → Calls Tryd.prog 50 #[.slice A n1 c] W fun e w' => ∃ A4 c4, e = .returned (.tuple #[.slice A4 m1 c4, .int .i64 0]) ∧ Hid (Own w' W.heap.size A4 (textL nm) c4) ∧ Hid (Below W.heap.size W w')) := fun W A c hr => by
    rw [g1, e1]
    refine (refText_yes nm A c 0 W hr (by omega)).mono fun e w' hh => ?_
    obtain ⟨A4, c4, q1, q2, q3⟩ := hh
    exact ⟨A4, c4, q1, q2, q3⟩
  have G1 := Lib.hid g1
  have E1 := Lib.hid e1
  clear g1 e1
  obtain ⟨n, hn⟩ : ∃ n, n = z.natAbs := ⟨_, rfl⟩
  obtain ⟨F, hF⟩ : ∃ F, F = fixL 4 n := ⟨_, rfl⟩
  have hFl : F.length = 4 := by rw [hF]; exact fixL_length 4 n
  have HX : Hid (∀ W, Calls Tryd.prog 51 #[.int .i64 (n : Int), .int .i64 4] W fun e w' => ∃ A4 c4, e = .returned (.tuple #[.slice A4 4 c4, .int .i64 0]) ∧ Hid (Own w' W.heap.size A4 F c4) ∧ Hid (Below W.heap.size W w')) := fun W => by
    rw [hF]
    refine (refFix_any n 4 W (by omega) (by omega) (by omega)).mono fun e w' hh => ?_
    obtain ⟨A4, c4, q1, q2, q3⟩ := hh.1 (by omega)
    rw [fixL_length] at q1
    exact ⟨A4, c4, q1, q2, q3⟩
  have d0 : decide (z < 0) = false := decide_eq_false c0
  have HG : Hid (signL z = [0] ++ F) := by show _ = _; rw [hF, hn]; unfold signL; rw [if_neg c0]; rfl
  have hzn : z = (n : Int) := by omega
  have HFl := Lib.hid hFl
  clear hF hFl
  clear hn c0 hz
  rw [hzn] at d0 HG HC HXX ⊢
  clear hzn
  obtain ⟨z, hzz⟩ : ∃ z : Int, z = (n : Int) := ⟨_, rfl⟩
  have HX2 := HX
  rw [← hzz] at d0 HG HC HX2 HXX ⊢
  clear HX
  have HX := HX2
  clear HX2 hzz
  rw [← h1, ← h2, ← h3] at HC ⊢
  clear h1 h2 h3 ln lt la
  have hO0 := Lib.hid (OpAt.new w 1 t1 t2 z t3)
  have hb0 : Below w.heap.size w (w.alloc (.cells #[.int .i64 1, .string t1, .string t2, .int .i64 z, .string t3] 24)) := (Below.refl _ _).alloc (Nat.le_refl _) _
  have a23 := fun w' => Tryd.opAgg w'
  have s23 := fun w' => Tryd.opSize w'
  go_enter Tryd.func21, Tryd.ntmps21
  go_upto_region 5 with (first
    | (go_at_call 44; (with_reducible refine (HC.out _).mono ?_); rintro e w1 ⟨rfl, b1⟩; have hO1 := Lib.hid (hO0.out.up b1); obtain ⟨l0', c0', c1', c2', c3', c4'⟩ := hO1.out)
    | (go_at_call 49; (with_reducible refine (HH.out _).mono ?_); rintro e w2 ⟨rfl, b2⟩; have hO2 := Lib.hid (hO1.out.up b2); have hb2 := Lib.hid (b1.trans (b2.mono b1.size)); obtain ⟨l9, p0, p1, p2, p3, p4⟩ := hO2.out))
  clear l0' c0' c1' c2' c3' c4' l9 p0 p1 p2 p3 p4
  have hS : Hid (PutSt (w.alloc (.cells #[.int .i64 1, .string t1, .string t2, .int .i64 z, .string t3] 24)) (w2.alloc (.cells #[.int .u8 1] 5)) (some ⟨w2.heap.size, 0, none⟩) 1 1 [UInt8.ofNat 1]) := by
    have hz2 := hb2.out.size
    exact ⟨rfl, ⟨rfl, .inr ⟨w2.heap.size, 1, #[.int .u8 1], rfl, hz2, heap_alloc_new w2 _, Nat.le_refl _, by simp [maxLen], rfl, rfl⟩⟩, hb2.out.alloc hz2 _⟩
  obtain ⟨wp, hwp⟩ : ∃ x, x = w2.alloc (.cells #[.int .u8 1] 5) := ⟨_, rfl⟩
  rw [← hwp] at hS ⊢
  obtain ⟨A9, hA9⟩ : ∃ x, x = (some ⟨w2.heap.size, 0, none⟩ : Option Addr) := ⟨_, rfl⟩
  rw [← hA9] at hS ⊢
  obtain ⟨q9, hq9⟩ : ∃ x : Nat, x = 1 := ⟨_, rfl⟩
  clear hwp hA9 b1 b2 hO1 hO2 hb2 hq9 q9
  obtain ⟨l0, c0, c1, c2, c3, c4⟩ := hO0.out.up hS.out.2.2
  obtain ⟨X0, hX0⟩ : ∃ X, X = [UInt8.ofNat 1] := ⟨_, rfl⟩
  have hX0l : X0.length = 1 := by rw [hX0]; rfl
  rw [← hX0] at hS
  have HX0 := Lib.hid hX0
  clear hX0
  have HL0 := Lib.hid hX0l
  clear hX0l
  go_wp2_with (first
    | (at_builtin; refine append_str rfl (.tmp 88) (.tmp 90) rfl rfl h8.out (by rw [← H3.out]; rfl) (by have h0 := HL2.out; have h2 := LA.out; omega) ?_; intro A10 q10 e10 w10 h10)
    | (at_builtin; refine append_more rfl (.tmp 72) (.tmp 73) rfl rfl h7.out rfl r7.out HFl.out.symm (by have h0 := HL1.out; have h2 := HFl.out; rw [List.length_append]; simp only [List.length_singleton]; omega) ?_; intro A8 q8 e8 w8 h8; have HL2 : Hid ((((X0 ++ textL nm) ++ [0]) ++ F).length ≤ 180) := (by show _ ≤ _; rw [List.length_append, List.length_append]; have h0 := HL1.out; have h2 := HFl.out; simp only [List.length_singleton]; omega); clear l0 c0 c1 c2 c3 c4; obtain ⟨l0, c0, c1, c2, c3, c4⟩ := hO0.out.up h8.out.2.2)
    | (at_builtin; refine append_one rfl (.tmp 69) (.tmp 71) rfl 0 rfl hS4.out rfl rfl (by have h0 := HL1.out; omega) ?_; intro A7 q7 e7 w7 h7 f7; have r7 := Lib.hid (f7.out _ _ (own_rb ho4.out) (fun ad e e2 => by have h1 := own_newO ho4.out ad e; have h2 := (h5.out.2.1.lt _ e2).2; omega)))
    | (go_at_call 51; (with_reducible refine (HX.out _).mono ?_); rintro e y4 ⟨B4, d4, rfl, ho4, hb4⟩; have hS4 := Lib.hid (h5.out.up hb4.out))
    | (at_builtin; refine append_more rfl (.tmp 43) (.tmp 44) rfl rfl hS1.out rfl (own_rb ho1.out) E1.out (by have h0 := HL0.out; have h8 := textL_le nm LN.out; omega) ?_; intro A5 q5 e5 w5 h5; have HL1 : Hid ((X0 ++ textL nm).length ≤ 60) := (by show _ ≤ _; rw [List.length_append]; have h0 := HL0.out; have h8 := textL_le nm LN.out; omega); clear l0 c0 c1 c2 c3 c4; obtain ⟨l0, c0, c1, c2, c3, c4⟩ := hO0.out.up h5.out.2.2)
    | (go_at_call 50; (with_reducible refine hT1.out.mono ?_); rintro e x1 ⟨B1, d1', rfl, ho1, hv1⟩; have hS1 := Lib.hid (hS.out.up (hb1.out.trans (hv1.out.mono hb1.out.size))))
    | (refine wpList_bytes_letter rfl (.tmp 38) rfl (some 39) rfl nm n1 G1.out (by have := LN.out; omega) (by rw [← H1.out]; rfl) ?_; intro g1 c1' v1 hg1 hc1 hm1' hr1 hb1; have hT1 := Lib.hid (HT1.out v1 (some ⟨g1, 0, none⟩) c1' hr1.out)))
  go_ret2
  have h := h10.out
  rw [HX0.out] at h
  rw [HXX.out, HG.out, ← List.append_assoc]
  exact put_gives rfl h
theorem rput_2 (z : Int) (nm tx a : List UInt8) (w : World) (ln : nm.length ≤ 48) (lt : tx.length ≤ 48) (la : a.length ≤ 48) (hz : -2147483647 ≤ z ∧ z ≤ 2147483647)
    (HC : Hid (∀ W, Calls Tryd.prog 44 #[.agg #[.int .i64 2, .string (text nm), .string (text tx), .int .i64 z, .string (text a)]] W fun e w' => e = .returned (.bool true) ∧ Below W.heap.size W w')) :
    Calls Tryd.prog 21 #[.agg #[.int .i64 2, .string (text nm), .string (text tx), .int .i64 z, .string (text a)]] w (GivesBytes ((([UInt8.ofNat 2] ++ textL nm) ++ textL tx) ++ a) w) := by
  obtain ⟨XX, hXX⟩ : ∃ X, X = ((([UInt8.ofNat 2] ++ textL nm) ++ textL tx) ++ a) := ⟨_, rfl⟩
  have HXX := Lib.hid hXX
  rw [← hXX]
  clear hXX
  obtain ⟨t1, h1⟩ : ∃ t, t = text nm := ⟨_, rfl⟩
  obtain ⟨t2, h2⟩ : ∃ t, t = text tx := ⟨_, rfl⟩
  obtain ⟨t3, h3⟩ : ∃ t, t = text a := ⟨_, rfl⟩
  have H1 := Lib.hid h1
  have H2 := Lib.hid h2
  have H3 := Lib.hid h3
  have LN := Lib.hid ln
  have LT := Lib.hid lt
  have LA := Lib.hid la
  have HH : Hid (∀ W, Calls Tryd.prog 49 #[.int .i64 2] W fun e w' => e = .returned (.tuple #[.bool true, .bool true, .bool false, .bool false, .bool true]) ∧ Below W.heap.size W w') := fun W => refHas_any 2 W
  obtain ⟨n1, g1⟩ : ∃ n, n = nm.length := ⟨_, rfl⟩
  obtain ⟨m1, e1⟩ : ∃ n, n = (textL nm).length := ⟨_, rfl⟩
  have hm1 : m1 ≤ 60 := by rw [e1]; unfold textL; rw [List.length_append]; have := putL_len5 nm.length (by omega); omega
  have HT1 : Hid (∀ W A c, RB W W.heap.size A nm → Calls Tryd.prog 50 #[.slice A n1 c] W fun e w' => ∃ A4 c4, e = .returned (.tuple #[.slice A4 m1 c4, .int .i64 0]) ∧ Hid (Own w' W.heap.size A4 (textL nm) c4) ∧ Hid (Below W.heap.size W w')) := fun W A c hr => by
    rw [g1, e1]
    refine (refText_yes nm A c 0 W hr (by omega)).mono fun e w' hh => ?_
    obtain ⟨A4, c4, q1, q2, q3⟩ := hh
    exact ⟨A4, c4, q1, q2, q3⟩
  have G1 := Lib.hid g1
  have E1 := Lib.hid e1
  clear g1 e1
  obtain ⟨n2, g2⟩ : ∃ n, n = tx.length := ⟨_, rfl⟩
  obtain ⟨m2, e2⟩ : ∃ n, n = (textL tx).length := ⟨_, rfl⟩
  have hm2 : m2 ≤ 60 := by rw [e2]; unfold textL; rw [List.length_append]; have := putL_len5 tx.length (by omega); omega
  have HT2 : Hid (∀ W A c, RB W W.heap.size A tx → Calls Tryd.prog 50 #[.slice A n2 c] W fun e w' => ∃ A4 c4, e = .returned (.tuple #[.slice A4 m2 c4, .int .i64 0]) ∧ Hid (Own w' W.heap.size A4 (textL tx) c4) ∧ Hid (Below W.heap.size W w')) := fun W A c hr => by
    rw [g2, e2]
    refine (refText_yes tx A c 0 W hr (by omega)).mono fun e w' hh => ?_
    obtain ⟨A4, c4, q1, q2, q3⟩ := hh
    exact ⟨A4, c4, q1, q2, q3⟩
  have G2 := Lib.hid g2
  have E2 := Lib.hid e2
  clear g2 e2
  rw [← h1, ← h2, ← h3] at HC ⊢
  clear h1 h2 h3 ln lt la
  clear hz
  have hO0 := Lib.hid (OpAt.new w 2 t1 t2 z t3)
  have hb0 : Below w.heap.size w (w.alloc (.cells #[.int .i64 2, .string t1, .string t2, .int .i64 z, .string t3] 24)) := (Below.refl _ _).alloc (Nat.le_refl _) _
  have a23 := fun w' => Tryd.opAgg w'
  have s23 := fun w' => Tryd.opSize w'
  go_enter Tryd.func21, Tryd.ntmps21
  go_upto_region 5 with (first
    | (go_at_call 44; (with_reducible refine (HC.out _).mono ?_); rintro e w1 ⟨rfl, b1⟩; have hO1 := Lib.hid (hO0.out.up b1); obtain ⟨l0', c0', c1', c2', c3', c4'⟩ := hO1.out)
    | (go_at_call 49; (with_reducible refine (HH.out _).mono ?_); rintro e w2 ⟨rfl, b2⟩; have hO2 := Lib.hid (hO1.out.up b2); have hb2 := Lib.hid (b1.trans (b2.mono b1.size)); obtain ⟨l9, p0, p1, p2, p3, p4⟩ := hO2.out))
  clear l0' c0' c1' c2' c3' c4' l9 p0 p1 p2 p3 p4
  have hS : Hid (PutSt (w.alloc (.cells #[.int .i64 2, .string t1, .string t2, .int .i64 z, .string t3] 24)) (w2.alloc (.cells #[.int .u8 2] 5)) (some ⟨w2.heap.size, 0, none⟩) 1 1 [UInt8.ofNat 2]) := by
    have hz2 := hb2.out.size
    exact ⟨rfl, ⟨rfl, .inr ⟨w2.heap.size, 1, #[.int .u8 2], rfl, hz2, heap_alloc_new w2 _, Nat.le_refl _, by simp [maxLen], rfl, rfl⟩⟩, hb2.out.alloc hz2 _⟩
  obtain ⟨wp, hwp⟩ : ∃ x, x = w2.alloc (.cells #[.int .u8 2] 5) := ⟨_, rfl⟩
  rw [← hwp] at hS ⊢
  obtain ⟨A9, hA9⟩ : ∃ x, x = (some ⟨w2.heap.size, 0, none⟩ : Option Addr) := ⟨_, rfl⟩
  rw [← hA9] at hS ⊢
  obtain ⟨q9, hq9⟩ : ∃ x : Nat, x = 1 := ⟨_, rfl⟩
  clear hwp hA9 b1 b2 hO1 hO2 hb2 hq9 q9
  obtain ⟨l0, c0, c1, c2, c3, c4⟩ := hO0.out.up hS.out.2.2
  obtain ⟨X0, hX0⟩ : ∃ X, X = [UInt8.ofNat 2] := ⟨_, rfl⟩
  have hX0l : X0.length = 1 := by rw [hX0]; rfl
  rw [← hX0] at hS
  have HX0 := Lib.hid hX0
  clear hX0
  have HL0 := Lib.hid hX0l
  clear hX0l
  go_wp2_with (first
    | (at_builtin; refine append_str rfl (.tmp 88) (.tmp 90) rfl rfl h6.out (by rw [← H3.out]; rfl) (by have h0 := HL2.out; have h2 := LA.out; omega) ?_; intro A10 q10 e10 w10 h10)
    | (at_builtin; refine append_more rfl (.tmp 54) (.tmp 55) rfl rfl hS2.out rfl (own_rb ho2.out) E2.out (by have h0 := HL1.out; have h8 := textL_le tx LT.out; omega) ?_; intro A6 q6 e6 w6 h6; have HL2 : Hid (((X0 ++ textL nm) ++ textL tx).length ≤ 120) := (by show _ ≤ _; rw [List.length_append]; have h0 := HL1.out; have h8 := textL_le tx LT.out; omega); clear l0 c0 c1 c2 c3 c4; obtain ⟨l0, c0, c1, c2, c3, c4⟩ := hO0.out.up h6.out.2.2)
    | (go_at_call 50; (with_reducible refine hT2.out.mono ?_); rintro e x2 ⟨B2, d2', rfl, ho2, hv2⟩; have hS2 := Lib.hid (h5.out.up (hb2.out.trans (hv2.out.mono hb2.out.size))))
    | (refine wpList_bytes_letter rfl (.tmp 49) rfl (some 50) rfl tx n2 G2.out (by have := LT.out; omega) (by rw [← H2.out]; rfl) ?_; intro g2 c2' v2 hg2 hc2 hm2' hr2 hb2; have hT2 := Lib.hid (HT2.out v2 (some ⟨g2, 0, none⟩) c2' hr2.out))
    | (at_builtin; refine append_more rfl (.tmp 43) (.tmp 44) rfl rfl hS1.out rfl (own_rb ho1.out) E1.out (by have h0 := HL0.out; have h8 := textL_le nm LN.out; omega) ?_; intro A5 q5 e5 w5 h5; have HL1 : Hid ((X0 ++ textL nm).length ≤ 60) := (by show _ ≤ _; rw [List.length_append]; have h0 := HL0.out; have h8 := textL_le nm LN.out; omega); clear l0 c0 c1 c2 c3 c4; obtain ⟨l0, c0, c1, c2, c3, c4⟩ := hO0.out.up h5.out.2.2)
    | (go_at_call 50; (with_reducible refine hT1.out.mono ?_); rintro e x1 ⟨B1, d1', rfl, ho1, hv1⟩; have hS1 := Lib.hid (hS.out.up (hb1.out.trans (hv1.out.mono hb1.out.size))))
    | (refine wpList_bytes_letter rfl (.tmp 38) rfl (some 39) rfl nm n1 G1.out (by have := LN.out; omega) (by rw [← H1.out]; rfl) ?_; intro g1 c1' v1 hg1 hc1 hm1' hr1 hb1; have hT1 := Lib.hid (HT1.out v1 (some ⟨g1, 0, none⟩) c1' hr1.out)))
  go_ret2
  have h := h10.out
  rw [HX0.out] at h
  rw [HXX.out]
  exact put_gives rfl h
theorem rput_3 (z : Int) (nm tx a : List UInt8) (w : World) (ln : nm.length ≤ 48) (lt : tx.length ≤ 48) (la : a.length ≤ 48) (hz : -2147483647 ≤ z ∧ z ≤ 2147483647)
    (HC : Hid (∀ W, Calls Tryd.prog 44 #[.agg #[.int .i64 3, .string (text nm), .string (text tx), .int .i64 z, .string (text a)]] W fun e w' => e = .returned (.bool true) ∧ Below W.heap.size W w')) :
    Calls Tryd.prog 21 #[.agg #[.int .i64 3, .string (text nm), .string (text tx), .int .i64 z, .string (text a)]] w (GivesBytes ((([UInt8.ofNat 3] ++ textL nm) ++ textL tx) ++ a) w) := by
  obtain ⟨XX, hXX⟩ : ∃ X, X = ((([UInt8.ofNat 3] ++ textL nm) ++ textL tx) ++ a) := ⟨_, rfl⟩
  have HXX := Lib.hid hXX
  rw [← hXX]
  clear hXX
  obtain ⟨t1, h1⟩ : ∃ t, t = text nm := ⟨_, rfl⟩
  obtain ⟨t2, h2⟩ : ∃ t, t = text tx := ⟨_, rfl⟩
  obtain ⟨t3, h3⟩ : ∃ t, t = text a := ⟨_, rfl⟩
  have H1 := Lib.hid h1
  have H2 := Lib.hid h2
  have H3 := Lib.hid h3
  have LN := Lib.hid ln
  have LT := Lib.hid lt
  have LA := Lib.hid la
  have HH : Hid (∀ W, Calls Tryd.prog 49 #[.int .i64 3] W fun e w' => e = .returned (.tuple #[.bool true, .bool true, .bool false, .bool false, .bool true]) ∧ Below W.heap.size W w') := fun W => refHas_any 3 W
  obtain ⟨n1, g1⟩ : ∃ n, n = nm.length := ⟨_, rfl⟩
  obtain ⟨m1, e1⟩ : ∃ n, n = (textL nm).length := ⟨_, rfl⟩
  have hm1 : m1 ≤ 60 := by rw [e1]; unfold textL; rw [List.length_append]; have := putL_len5 nm.length (by omega); omega
  have HT1 : Hid (∀ W A c, RB W W.heap.size A nm → Calls Tryd.prog 50 #[.slice A n1 c] W fun e w' => ∃ A4 c4, e = .returned (.tuple #[.slice A4 m1 c4, .int .i64 0]) ∧ Hid (Own w' W.heap.size A4 (textL nm) c4) ∧ Hid (Below W.heap.size W w')) := fun W A c hr => by
    rw [g1, e1]
    refine (refText_yes nm A c 0 W hr (by omega)).mono fun e w' hh => ?_
    obtain ⟨A4, c4, q1, q2, q3⟩ := hh
    exact ⟨A4, c4, q1, q2, q3⟩
  have G1 := Lib.hid g1
  have E1 := Lib.hid e1
  clear g1 e1
  obtain ⟨n2, g2⟩ : ∃ n, n = tx.length := ⟨_, rfl⟩
  obtain ⟨m2, e2⟩ : ∃ n, n = (textL tx).length := ⟨_, rfl⟩
  have hm2 : m2 ≤ 60 := by rw [e2]; unfold textL; rw [List.length_append]; have := putL_len5 tx.length (by omega); omega
  have HT2 : Hid (∀ W A c, RB W W.heap.size A tx → Calls Tryd.prog 50 #[.slice A n2 c] W fun e w' => ∃ A4 c4, e = .returned (.tuple #[.slice A4 m2 c4, .int .i64 0]) ∧ Hid (Own w' W.heap.size A4 (textL tx) c4) ∧ Hid (Below W.heap.size W w')) := fun W A c hr => by
    rw [g2, e2]
    refine (refText_yes tx A c 0 W hr (by omega)).mono fun e w' hh => ?_
    obtain ⟨A4, c4, q1, q2, q3⟩ := hh
    exact ⟨A4, c4, q1, q2, q3⟩
  have G2 := Lib.hid g2
  have E2 := Lib.hid e2
  clear g2 e2
  rw [← h1, ← h2, ← h3] at HC ⊢
  clear h1 h2 h3 ln lt la
  clear hz
  have hO0 := Lib.hid (OpAt.new w 3 t1 t2 z t3)
  have hb0 : Below w.heap.size w (w.alloc (.cells #[.int .i64 3, .string t1, .string t2, .int .i64 z, .string t3] 24)) := (Below.refl _ _).alloc (Nat.le_refl _) _
  have a23 := fun w' => Tryd.opAgg w'
  have s23 := fun w' => Tryd.opSize w'
  go_enter Tryd.func21, Tryd.ntmps21
  go_upto_region 5 with (first
    | (go_at_call 44; (with_reducible refine (HC.out _).mono ?_); rintro e w1 ⟨rfl, b1⟩; have hO1 := Lib.hid (hO0.out.up b1); obtain ⟨l0', c0', c1', c2', c3', c4'⟩ := hO1.out)
    | (go_at_call 49; (with_reducible refine (HH.out _).mono ?_); rintro e w2 ⟨rfl, b2⟩; have hO2 := Lib.hid (hO1.out.up b2); have hb2 := Lib.hid (b1.trans (b2.mono b1.size)); obtain ⟨l9, p0, p1, p2, p3, p4⟩ := hO2.out))
  clear l0' c0' c1' c2' c3' c4' l9 p0 p1 p2 p3 p4
  have hS : Hid (PutSt (w.alloc (.cells #[.int .i64 3, .string t1, .string t2, .int .i64 z, .string t3] 24)) (w2.alloc (.cells #[.int .u8 3] 5)) (some ⟨w2.heap.size, 0, none⟩) 1 1 [UInt8.ofNat 3]) := by
    have hz2 := hb2.out.size
    exact ⟨rfl, ⟨rfl, .inr ⟨w2.heap.size, 1, #[.int .u8 3], rfl, hz2, heap_alloc_new w2 _, Nat.le_refl _, by simp [maxLen], rfl, rfl⟩⟩, hb2.out.alloc hz2 _⟩
  obtain ⟨wp, hwp⟩ : ∃ x, x = w2.alloc (.cells #[.int .u8 3] 5) := ⟨_, rfl⟩
  rw [← hwp] at hS ⊢
  obtain ⟨A9, hA9⟩ : ∃ x, x = (some ⟨w2.heap.size, 0, none⟩ : Option Addr) := ⟨_, rfl⟩
  rw [← hA9] at hS ⊢
  obtain ⟨q9, hq9⟩ : ∃ x : Nat, x = 1 := ⟨_, rfl⟩
  clear hwp hA9 b1 b2 hO1 hO2 hb2 hq9 q9
  obtain ⟨l0, c0, c1, c2, c3, c4⟩ := hO0.out.up hS.out.2.2
  obtain ⟨X0, hX0⟩ : ∃ X, X = [UInt8.ofNat 3] := ⟨_, rfl⟩
  have hX0l : X0.length = 1 := by rw [hX0]; rfl
  rw [← hX0] at hS
  have HX0 := Lib.hid hX0
  clear hX0
  have HL0 := Lib.hid hX0l
  clear hX0l
  go_wp2_with (first
    | (at_builtin; refine append_str rfl (.tmp 88) (.tmp 90) rfl rfl h6.out (by rw [← H3.out]; rfl) (by have h0 := HL2.out; have h2 := LA.out; omega) ?_; intro A10 q10 e10 w10 h10)
    | (at_builtin; refine append_more rfl (.tmp 54) (.tmp 55) rfl rfl hS2.out rfl (own_rb ho2.out) E2.out (by have h0 := HL1.out; have h8 := textL_le tx LT.out; omega) ?_; intro A6 q6 e6 w6 h6; have HL2 : Hid (((X0 ++ textL nm) ++ textL tx).length ≤ 120) := (by show _ ≤ _; rw [List.length_append]; have h0 := HL1.out; have h8 := textL_le tx LT.out; omega); clear l0 c0 c1 c2 c3 c4; obtain ⟨l0, c0, c1, c2, c3, c4⟩ := hO0.out.up h6.out.2.2)
    | (go_at_call 50; (with_reducible refine hT2.out.mono ?_); rintro e x2 ⟨B2, d2', rfl, ho2, hv2⟩; have hS2 := Lib.hid (h5.out.up (hb2.out.trans (hv2.out.mono hb2.out.size))))
    | (refine wpList_bytes_letter rfl (.tmp 49) rfl (some 50) rfl tx n2 G2.out (by have := LT.out; omega) (by rw [← H2.out]; rfl) ?_; intro g2 c2' v2 hg2 hc2 hm2' hr2 hb2; have hT2 := Lib.hid (HT2.out v2 (some ⟨g2, 0, none⟩) c2' hr2.out))
    | (at_builtin; refine append_more rfl (.tmp 43) (.tmp 44) rfl rfl hS1.out rfl (own_rb ho1.out) E1.out (by have h0 := HL0.out; have h8 := textL_le nm LN.out; omega) ?_; intro A5 q5 e5 w5 h5; have HL1 : Hid ((X0 ++ textL nm).length ≤ 60) := (by show _ ≤ _; rw [List.length_append]; have h0 := HL0.out; have h8 := textL_le nm LN.out; omega); clear l0 c0 c1 c2 c3 c4; obtain ⟨l0, c0, c1, c2, c3, c4⟩ := hO0.out.up h5.out.2.2)
    | (go_at_call 50; (with_reducible refine hT1.out.mono ?_); rintro e x1 ⟨B1, d1', rfl, ho1, hv1⟩; have hS1 := Lib.hid (hS.out.up (hb1.out.trans (hv1.out.mono hb1.out.size))))
    | (refine wpList_bytes_letter rfl (.tmp 38) rfl (some 39) rfl nm n1 G1.out (by have := LN.out; omega) (by rw [← H1.out]; rfl) ?_; intro g1 c1' v1 hg1 hc1 hm1' hr1 hb1; have hT1 := Lib.hid (HT1.out v1 (some ⟨g1, 0, none⟩) c1' hr1.out)))
  go_ret2
  have h := h10.out
  rw [HX0.out] at h
  rw [HXX.out]
  exact put_gives rfl h
theorem rput_4 (z : Int) (nm tx a : List UInt8) (w : World) (ln : nm.length ≤ 48) (lt : tx.length ≤ 48) (la : a.length ≤ 48) (hz : -2147483647 ≤ z ∧ z ≤ 2147483647)
    (HC : Hid (∀ W, Calls Tryd.prog 44 #[.agg #[.int .i64 4, .string (text nm), .string (text tx), .int .i64 z, .string (text a)]] W fun e w' => e = .returned (.bool true) ∧ Below W.heap.size W w')) :
    Calls Tryd.prog 21 #[.agg #[.int .i64 4, .string (text nm), .string (text tx), .int .i64 z, .string (text a)]] w (GivesBytes ((([UInt8.ofNat 4] ++ textL nm) ++ textL tx) ++ a) w) := by
  obtain ⟨XX, hXX⟩ : ∃ X, X = ((([UInt8.ofNat 4] ++ textL nm) ++ textL tx) ++ a) := ⟨_, rfl⟩
  have HXX := Lib.hid hXX
  rw [← hXX]
  clear hXX
  obtain ⟨t1, h1⟩ : ∃ t, t = text nm := ⟨_, rfl⟩
  obtain ⟨t2, h2⟩ : ∃ t, t = text tx := ⟨_, rfl⟩
  obtain ⟨t3, h3⟩ : ∃ t, t = text a := ⟨_, rfl⟩
  have H1 := Lib.hid h1
  have H2 := Lib.hid h2
  have H3 := Lib.hid h3
  have LN := Lib.hid ln
  have LT := Lib.hid lt
  have LA := Lib.hid la
  have HH : Hid (∀ W, Calls Tryd.prog 49 #[.int .i64 4] W fun e w' => e = .returned (.tuple #[.bool true, .bool true, .bool false, .bool false, .bool true]) ∧ Below W.heap.size W w') := fun W => refHas_any 4 W
  obtain ⟨n1, g1⟩ : ∃ n, n = nm.length := ⟨_, rfl⟩
  obtain ⟨m1, e1⟩ : ∃ n, n = (textL nm).length := ⟨_, rfl⟩
  have hm1 : m1 ≤ 60 := by rw [e1]; unfold textL; rw [List.length_append]; have := putL_len5 nm.length (by omega); omega
  have HT1 : Hid (∀ W A c, RB W W.heap.size A nm → Calls Tryd.prog 50 #[.slice A n1 c] W fun e w' => ∃ A4 c4, e = .returned (.tuple #[.slice A4 m1 c4, .int .i64 0]) ∧ Hid (Own w' W.heap.size A4 (textL nm) c4) ∧ Hid (Below W.heap.size W w')) := fun W A c hr => by
    rw [g1, e1]
    refine (refText_yes nm A c 0 W hr (by omega)).mono fun e w' hh => ?_
    obtain ⟨A4, c4, q1, q2, q3⟩ := hh
    exact ⟨A4, c4, q1, q2, q3⟩
  have G1 := Lib.hid g1
  have E1 := Lib.hid e1
  clear g1 e1
  obtain ⟨n2, g2⟩ : ∃ n, n = tx.length := ⟨_, rfl⟩
  obtain ⟨m2, e2⟩ : ∃ n, n = (textL tx).length := ⟨_, rfl⟩
  have hm2 : m2 ≤ 60 := by rw [e2]; unfold textL; rw [List.length_append]; have := putL_len5 tx.length (by omega); omega
  have HT2 : Hid (∀ W A c, RB W W.heap.size A tx → Calls Tryd.prog 50 #[.slice A n2 c] W fun e w' => ∃ A4 c4, e = .returned (.tuple #[.slice A4 m2 c4, .int .i64 0]) ∧ Hid (Own w' W.heap.size A4 (textL tx) c4) ∧ Hid (Below W.heap.size W w')) := fun W A c hr => by
    rw [g2, e2]
    refine (refText_yes tx A c 0 W hr (by omega)).mono fun e w' hh => ?_
    obtain ⟨A4, c4, q1, q2, q3⟩ := hh
    exact ⟨A4, c4, q1, q2, q3⟩
  have G2 := Lib.hid g2
  have E2 := Lib.hid e2
  clear g2 e2
  rw [← h1, ← h2, ← h3] at HC ⊢
  clear h1 h2 h3 ln lt la
  clear hz
  have hO0 := Lib.hid (OpAt.new w 4 t1 t2 z t3)
  have hb0 : Below w.heap.size w (w.alloc (.cells #[.int .i64 4, .string t1, .string t2, .int .i64 z, .string t3] 24)) := (Below.refl _ _).alloc (Nat.le_refl _) _
  have a23 := fun w' => Tryd.opAgg w'
  have s23 := fun w' => Tryd.opSize w'
  go_enter Tryd.func21, Tryd.ntmps21
  go_upto_region 5 with (first
    | (go_at_call 44; (with_reducible refine (HC.out _).mono ?_); rintro e w1 ⟨rfl, b1⟩; have hO1 := Lib.hid (hO0.out.up b1); obtain ⟨l0', c0', c1', c2', c3', c4'⟩ := hO1.out)
    | (go_at_call 49; (with_reducible refine (HH.out _).mono ?_); rintro e w2 ⟨rfl, b2⟩; have hO2 := Lib.hid (hO1.out.up b2); have hb2 := Lib.hid (b1.trans (b2.mono b1.size)); obtain ⟨l9, p0, p1, p2, p3, p4⟩ := hO2.out))
  clear l0' c0' c1' c2' c3' c4' l9 p0 p1 p2 p3 p4
  have hS : Hid (PutSt (w.alloc (.cells #[.int .i64 4, .string t1, .string t2, .int .i64 z, .string t3] 24)) (w2.alloc (.cells #[.int .u8 4] 5)) (some ⟨w2.heap.size, 0, none⟩) 1 1 [UInt8.ofNat 4]) := by
    have hz2 := hb2.out.size
    exact ⟨rfl, ⟨rfl, .inr ⟨w2.heap.size, 1, #[.int .u8 4], rfl, hz2, heap_alloc_new w2 _, Nat.le_refl _, by simp [maxLen], rfl, rfl⟩⟩, hb2.out.alloc hz2 _⟩
  obtain ⟨wp, hwp⟩ : ∃ x, x = w2.alloc (.cells #[.int .u8 4] 5) := ⟨_, rfl⟩
  rw [← hwp] at hS ⊢
  obtain ⟨A9, hA9⟩ : ∃ x, x = (some ⟨w2.heap.size, 0, none⟩ : Option Addr) := ⟨_, rfl⟩
  rw [← hA9] at hS ⊢
  obtain ⟨q9, hq9⟩ : ∃ x : Nat, x = 1 := ⟨_, rfl⟩
  clear hwp hA9 b1 b2 hO1 hO2 hb2 hq9 q9
  obtain ⟨l0, c0, c1, c2, c3, c4⟩ := hO0.out.up hS.out.2.2
  obtain ⟨X0, hX0⟩ : ∃ X, X = [UInt8.ofNat 4] := ⟨_, rfl⟩
  have hX0l : X0.length = 1 := by rw [hX0]; rfl
  rw [← hX0] at hS
  have HX0 := Lib.hid hX0
  clear hX0
  have HL0 := Lib.hid hX0l
  clear hX0l
  go_wp2_with (first
    | (at_builtin; refine append_str rfl (.tmp 88) (.tmp 90) rfl rfl h6.out (by rw [← H3.out]; rfl) (by have h0 := HL2.out; have h2 := LA.out; omega) ?_; intro A10 q10 e10 w10 h10)
    | (at_builtin; refine append_more rfl (.tmp 54) (.tmp 55) rfl rfl hS2.out rfl (own_rb ho2.out) E2.out (by have h0 := HL1.out; have h8 := textL_le tx LT.out; omega) ?_; intro A6 q6 e6 w6 h6; have HL2 : Hid (((X0 ++ textL nm) ++ textL tx).length ≤ 120) := (by show _ ≤ _; rw [List.length_append]; have h0 := HL1.out; have h8 := textL_le tx LT.out; omega); clear l0 c0 c1 c2 c3 c4; obtain ⟨l0, c0, c1, c2, c3, c4⟩ := hO0.out.up h6.out.2.2)
    | (go_at_call 50; (with_reducible refine hT2.out.mono ?_); rintro e x2 ⟨B2, d2', rfl, ho2, hv2⟩; have hS2 := Lib.hid (h5.out.up (hb2.out.trans (hv2.out.mono hb2.out.size))))
    | (refine wpList_bytes_letter rfl (.tmp 49) rfl (some 50) rfl tx n2 G2.out (by have := LT.out; omega) (by rw [← H2.out]; rfl) ?_; intro g2 c2' v2 hg2 hc2 hm2' hr2 hb2; have hT2 := Lib.hid (HT2.out v2 (some ⟨g2, 0, none⟩) c2' hr2.out))
    | (at_builtin; refine append_more rfl (.tmp 43) (.tmp 44) rfl rfl hS1.out rfl (own_rb ho1.out) E1.out (by have h0 := HL0.out; have h8 := textL_le nm LN.out; omega) ?_; intro A5 q5 e5 w5 h5; have HL1 : Hid ((X0 ++ textL nm).length ≤ 60) := (by show _ ≤ _; rw [List.length_append]; have h0 := HL0.out; have h8 := textL_le nm LN.out; omega); clear l0 c0 c1 c2 c3 c4; obtain ⟨l0, c0, c1, c2, c3, c4⟩ := hO0.out.up h5.out.2.2)
    | (go_at_call 50; (with_reducible refine hT1.out.mono ?_); rintro e x1 ⟨B1, d1', rfl, ho1, hv1⟩; have hS1 := Lib.hid (hS.out.up (hb1.out.trans (hv1.out.mono hb1.out.size))))
    | (refine wpList_bytes_letter rfl (.tmp 38) rfl (some 39) rfl nm n1 G1.out (by have := LN.out; omega) (by rw [← H1.out]; rfl) ?_; intro g1 c1' v1 hg1 hc1 hm1' hr1 hb1; have hT1 := Lib.hid (HT1.out v1 (some ⟨g1, 0, none⟩) c1' hr1.out)))
  go_ret2
  have h := h10.out
  rw [HX0.out] at h
  rw [HXX.out]
  exact put_gives rfl h
theorem rput_5e (z : Int) (nm tx a : List UInt8) (w : World) (ln : nm.length ≤ 48) (lt : tx.length ≤ 48) (la : a.length ≤ 48) (hz : -2147483647 ≤ z ∧ z ≤ 2147483647) (ca : a = [])
    (HC : Hid (∀ W, Calls Tryd.prog 44 #[.agg #[.int .i64 5, .string (text nm), .string (text tx), .int .i64 z, .string (text a)]] W fun e w' => e = .returned (.bool true) ∧ Below W.heap.size W w')) :
    Calls Tryd.prog 21 #[.agg #[.int .i64 5, .string (text nm), .string (text tx), .int .i64 z, .string (text a)]] w (GivesBytes (((([UInt8.ofNat 5] ++ textL nm) ++ textL tx) ++ [0]) ++ a) w) := by
  obtain ⟨XX, hXX⟩ : ∃ X, X = (((([UInt8.ofNat 5] ++ textL nm) ++ textL tx) ++ [0]) ++ a) := ⟨_, rfl⟩
  have HXX := Lib.hid hXX
  rw [← hXX]
  clear hXX
  obtain ⟨t1, h1⟩ : ∃ t, t = text nm := ⟨_, rfl⟩
  obtain ⟨t2, h2⟩ : ∃ t, t = text tx := ⟨_, rfl⟩
  obtain ⟨t3, h3⟩ : ∃ t, t = text a := ⟨_, rfl⟩
  have H1 := Lib.hid h1
  have H2 := Lib.hid h2
  have H3 := Lib.hid h3
  have LN := Lib.hid ln
  have LT := Lib.hid lt
  have LA := Lib.hid la
  have HH : Hid (∀ W, Calls Tryd.prog 49 #[.int .i64 5] W fun e w' => e = .returned (.tuple #[.bool true, .bool true, .bool false, .bool true, .bool true]) ∧ Below W.heap.size W w') := fun W => refHas_any 5 W
  obtain ⟨n1, g1⟩ : ∃ n, n = nm.length := ⟨_, rfl⟩
  obtain ⟨m1, e1⟩ : ∃ n, n = (textL nm).length := ⟨_, rfl⟩
  have hm1 : m1 ≤ 60 := by rw [e1]; unfold textL; rw [List.length_append]; have := putL_len5 nm.length (by omega); omega
  have HT1 : Hid (∀ W A c, RB W W.heap.size A nm → Calls Tryd.prog 50 #[.slice A n1 c] W fun e w' => ∃ A4 c4, e = .returned (.tuple #[.slice A4 m1 c4, .int .i64 0]) ∧ Hid (Own w' W.heap.size A4 (textL nm) c4) ∧ Hid (Below W.heap.size W w')) := fun W A c hr => by
    rw [g1, e1]
    refine (refText_yes nm A c 0 W hr (by omega)).mono fun e w' hh => ?_
    obtain ⟨A4, c4, q1, q2, q3⟩ := hh
    exact ⟨A4, c4, q1, q2, q3⟩
  have G1 := Lib.hid g1
  have E1 := Lib.hid e1
  clear g1 e1
  obtain ⟨n2, g2⟩ : ∃ n, n = tx.length := ⟨_, rfl⟩
  obtain ⟨m2, e2⟩ : ∃ n, n = (textL tx).length := ⟨_, rfl⟩
  have hm2 : m2 ≤ 60 := by rw [e2]; unfold textL; rw [List.length_append]; have := putL_len5 tx.length (by omega); omega
  have HT2 : Hid (∀ W A c, RB W W.heap.size A tx → Calls Tryd.prog 50 #[.slice A n2 c] W fun e w' => ∃ A4 c4, e = .returned (.tuple #[.slice A4 m2 c4, .int .i64 0]) ∧ Hid (Own w' W.heap.size A4 (textL tx) c4) ∧ Hid (Below W.heap.size W w')) := fun W A c hr => by
    rw [g2, e2]
    refine (refText_yes tx A c 0 W hr (by omega)).mono fun e w' hh => ?_
    obtain ⟨A4, c4, q1, q2, q3⟩ := hh
    exact ⟨A4, c4, q1, q2, q3⟩
  have G2 := Lib.hid g2
  have E2 := Lib.hid e2
  clear g2 e2
  have htl : t3.toList = a := by rw [h3]; exact text_toList a
  have htl2 : t3.toList = [] := by rw [htl, ca]
  clear htl ca
  rw [← h1, ← h2, ← h3] at HC ⊢
  clear h1 h2 h3 ln lt la
  clear hz
  have hO0 := Lib.hid (OpAt.new w 5 t1 t2 z t3)
  have hb0 : Below w.heap.size w (w.alloc (.cells #[.int .i64 5, .string t1, .string t2, .int .i64 z, .string t3] 24)) := (Below.refl _ _).alloc (Nat.le_refl _) _
  have a23 := fun w' => Tryd.opAgg w'
  have s23 := fun w' => Tryd.opSize w'
  go_enter Tryd.func21, Tryd.ntmps21
  go_upto_region 5 with (first
    | (go_at_call 44; (with_reducible refine (HC.out _).mono ?_); rintro e w1 ⟨rfl, b1⟩; have hO1 := Lib.hid (hO0.out.up b1); obtain ⟨l0', c0', c1', c2', c3', c4'⟩ := hO1.out)
    | (go_at_call 49; (with_reducible refine (HH.out _).mono ?_); rintro e w2 ⟨rfl, b2⟩; have hO2 := Lib.hid (hO1.out.up b2); have hb2 := Lib.hid (b1.trans (b2.mono b1.size)); obtain ⟨l9, p0, p1, p2, p3, p4⟩ := hO2.out))
  clear l0' c0' c1' c2' c3' c4' l9 p0 p1 p2 p3 p4
  have hS : Hid (PutSt (w.alloc (.cells #[.int .i64 5, .string t1, .string t2, .int .i64 z, .string t3] 24)) (w2.alloc (.cells #[.int .u8 5] 5)) (some ⟨w2.heap.size, 0, none⟩) 1 1 [UInt8.ofNat 5]) := by
    have hz2 := hb2.out.size
    exact ⟨rfl, ⟨rfl, .inr ⟨w2.heap.size, 1, #[.int .u8 5], rfl, hz2, heap_alloc_new w2 _, Nat.le_refl _, by simp [maxLen], rfl, rfl⟩⟩, hb2.out.alloc hz2 _⟩
  obtain ⟨wp, hwp⟩ : ∃ x, x = w2.alloc (.cells #[.int .u8 5] 5) := ⟨_, rfl⟩
  rw [← hwp] at hS ⊢
  obtain ⟨A9, hA9⟩ : ∃ x, x = (some ⟨w2.heap.size, 0, none⟩ : Option Addr) := ⟨_, rfl⟩
  rw [← hA9] at hS ⊢
  obtain ⟨q9, hq9⟩ : ∃ x : Nat, x = 1 := ⟨_, rfl⟩
  clear hwp hA9 b1 b2 hO1 hO2 hb2 hq9 q9
  obtain ⟨l0, c0, c1, c2, c3, c4⟩ := hO0.out.up hS.out.2.2
  obtain ⟨X0, hX0⟩ : ∃ X, X = [UInt8.ofNat 5] := ⟨_, rfl⟩
  have hX0l : X0.length = 1 := by rw [hX0]; rfl
  rw [← hX0] at hS
  have HX0 := Lib.hid hX0
  clear hX0
  have HL0 := Lib.hid hX0l
  clear hX0l
  go_wp2_with (first
    | (at_builtin; refine append_str rfl (.tmp 88) (.tmp 90) rfl rfl h9.out (by rw [← H3.out]; rfl) (by have h0 := HL3.out; have h2 := LA.out; omega) ?_; intro A10 q10 e10 w10 h10)
    | (at_builtin; refine append_one rfl (.tmp 84) (.tmp 86) rfl 0 rfl h6.out rfl rfl (by have h0 := HL2.out; omega) ?_; intro A9' q9 e9 w9 h9 f9; have HL3 : Hid ((((X0 ++ textL nm) ++ textL tx) ++ [0]).length ≤ 180) := (by show _ ≤ _; rw [List.length_append]; have h0 := HL2.out; simp only [List.length_singleton]; omega); clear l0 c0 c1 c2 c3 c4; obtain ⟨l0, c0, c1, c2, c3, c4⟩ := hO0.out.up h9.out.2.2)
    | (at_builtin; refine append_more rfl (.tmp 54) (.tmp 55) rfl rfl hS2.out rfl (own_rb ho2.out) E2.out (by have h0 := HL1.out; have h8 := textL_le tx LT.out; omega) ?_; intro A6 q6 e6 w6 h6; have HL2 : Hid (((X0 ++ textL nm) ++ textL tx).length ≤ 120) := (by show _ ≤ _; rw [List.length_append]; have h0 := HL1.out; have h8 := textL_le tx LT.out; omega); clear l0 c0 c1 c2 c3 c4; obtain ⟨l0, c0, c1, c2, c3, c4⟩ := hO0.out.up h6.out.2.2)
    | (go_at_call 50; (with_reducible refine hT2.out.mono ?_); rintro e x2 ⟨B2, d2', rfl, ho2, hv2⟩; have hS2 := Lib.hid (h5.out.up (hb2.out.trans (hv2.out.mono hb2.out.size))))
    | (refine wpList_bytes_letter rfl (.tmp 49) rfl (some 50) rfl tx n2 G2.out (by have := LT.out; omega) (by rw [← H2.out]; rfl) ?_; intro g2 c2' v2 hg2 hc2 hm2' hr2 hb2; have hT2 := Lib.hid (HT2.out v2 (some ⟨g2, 0, none⟩) c2' hr2.out))
    | (at_builtin; refine append_more rfl (.tmp 43) (.tmp 44) rfl rfl hS1.out rfl (own_rb ho1.out) E1.out (by have h0 := HL0.out; have h8 := textL_le nm LN.out; omega) ?_; intro A5 q5 e5 w5 h5; have HL1 : Hid ((X0 ++ textL nm).length ≤ 60) := (by show _ ≤ _; rw [List.length_append]; have h0 := HL0.out; have h8 := textL_le nm LN.out; omega); clear l0 c0 c1 c2 c3 c4; obtain ⟨l0, c0, c1, c2, c3, c4⟩ := hO0.out.up h5.out.2.2)
    | (go_at_call 50; (with_reducible refine hT1.out.mono ?_); rintro e x1 ⟨B1, d1', rfl, ho1, hv1⟩; have hS1 := Lib.hid (hS.out.up (hb1.out.trans (hv1.out.mono hb1.out.size))))
    | (refine wpList_bytes_letter rfl (.tmp 38) rfl (some 39) rfl nm n1 G1.out (by have := LN.out; omega) (by rw [← H1.out]; rfl) ?_; intro g1 c1' v1 hg1 hc1 hm1' hr1 hb1; have hT1 := Lib.hid (HT1.out v1 (some ⟨g1, 0, none⟩) c1' hr1.out)))
  go_ret2
  have h := h10.out
  rw [HX0.out] at h
  rw [HXX.out]
  exact put_gives rfl h
theorem rput_5y (z : Int) (nm tx a : List UInt8) (w : World) (ln : nm.length ≤ 48) (lt : tx.length ≤ 48) (la : a.length ≤ 48) (hz : -2147483647 ≤ z ∧ z ≤ 2147483647) (ca : a ≠ [])
    (HC : Hid (∀ W, Calls Tryd.prog 44 #[.agg #[.int .i64 5, .string (text nm), .string (text tx), .int .i64 z, .string (text a)]] W fun e w' => e = .returned (.bool true) ∧ Below W.heap.size W w')) :
    Calls Tryd.prog 21 #[.agg #[.int .i64 5, .string (text nm), .string (text tx), .int .i64 z, .string (text a)]] w (GivesBytes (((([UInt8.ofNat 5] ++ textL nm) ++ textL tx) ++ [1]) ++ a) w) := by
  obtain ⟨XX, hXX⟩ : ∃ X, X = (((([UInt8.ofNat 5] ++ textL nm) ++ textL tx) ++ [1]) ++ a) := ⟨_, rfl⟩
  have HXX := Lib.hid hXX
  rw [← hXX]
  clear hXX
  obtain ⟨t1, h1⟩ : ∃ t, t = text nm := ⟨_, rfl⟩
  obtain ⟨t2, h2⟩ : ∃ t, t = text tx := ⟨_, rfl⟩
  obtain ⟨t3, h3⟩ : ∃ t, t = text a := ⟨_, rfl⟩
  have H1 := Lib.hid h1
  have H2 := Lib.hid h2
  have H3 := Lib.hid h3
  have LN := Lib.hid ln
  have LT := Lib.hid lt
  have LA := Lib.hid la
  have HH : Hid (∀ W, Calls Tryd.prog 49 #[.int .i64 5] W fun e w' => e = .returned (.tuple #[.bool true, .bool true, .bool false, .bool true, .bool true]) ∧ Below W.heap.size W w') := fun W => refHas_any 5 W
  obtain ⟨n1, g1⟩ : ∃ n, n = nm.length := ⟨_, rfl⟩
  obtain ⟨m1, e1⟩ : ∃ n, n = (textL nm).length := ⟨_, rfl⟩
  have hm1 : m1 ≤ 60 := by rw [e1]; unfold textL; rw [List.length_append]; have := putL_len5 nm.length (by omega); omega
  have HT1 : Hid (∀ W A c, RB W W.heap.size A nm → Calls Tryd.prog 50 #[.slice A n1 c] W fun e w' => ∃ A4 c4, e = .returned (.tuple #[.slice A4 m1 c4, .int .i64 0]) ∧ Hid (Own w' W.heap.size A4 (textL nm) c4) ∧ Hid (Below W.heap.size W w')) := fun W A c hr => by
    rw [g1, e1]
    refine (refText_yes nm A c 0 W hr (by omega)).mono fun e w' hh => ?_
    obtain ⟨A4, c4, q1, q2, q3⟩ := hh
    exact ⟨A4, c4, q1, q2, q3⟩
  have G1 := Lib.hid g1
  have E1 := Lib.hid e1
  clear g1 e1
  obtain ⟨n2, g2⟩ : ∃ n, n = tx.length := ⟨_, rfl⟩
  obtain ⟨m2, e2⟩ : ∃ n, n = (textL tx).length := ⟨_, rfl⟩
  have hm2 : m2 ≤ 60 := by rw [e2]; unfold textL; rw [List.length_append]; have := putL_len5 tx.length (by omega); omega
  have HT2 : Hid (∀ W A c, RB W W.heap.size A tx → Calls Tryd.prog 50 #[.slice A n2 c] W fun e w' => ∃ A4 c4, e = .returned (.tuple #[.slice A4 m2 c4, .int .i64 0]) ∧ Hid (Own w' W.heap.size A4 (textL tx) c4) ∧ Hid (Below W.heap.size W w')) := fun W A c hr => by
    rw [g2, e2]
    refine (refText_yes tx A c 0 W hr (by omega)).mono fun e w' hh => ?_
    obtain ⟨A4, c4, q1, q2, q3⟩ := hh
    exact ⟨A4, c4, q1, q2, q3⟩
  have G2 := Lib.hid g2
  have E2 := Lib.hid e2
  clear g2 e2
  have htl : t3.toList = a := by rw [h3]; exact text_toList a
  have hE : a.isEmpty = false := by simpa using ca
  clear ca
  rw [← h1, ← h2, ← h3] at HC ⊢
  clear h1 h2 h3 ln lt la
  clear hz
  have hO0 := Lib.hid (OpAt.new w 5 t1 t2 z t3)
  have hb0 : Below w.heap.size w (w.alloc (.cells #[.int .i64 5, .string t1, .string t2, .int .i64 z, .string t3] 24)) := (Below.refl _ _).alloc (Nat.le_refl _) _
  have a23 := fun w' => Tryd.opAgg w'
  have s23 := fun w' => Tryd.opSize w'
  go_enter Tryd.func21, Tryd.ntmps21
  go_upto_region 5 with (first
    | (go_at_call 44; (with_reducible refine (HC.out _).mono ?_); rintro e w1 ⟨rfl, b1⟩; have hO1 := Lib.hid (hO0.out.up b1); obtain ⟨l0', c0', c1', c2', c3', c4'⟩ := hO1.out)
    | (go_at_call 49; (with_reducible refine (HH.out _).mono ?_); rintro e w2 ⟨rfl, b2⟩; have hO2 := Lib.hid (hO1.out.up b2); have hb2 := Lib.hid (b1.trans (b2.mono b1.size)); obtain ⟨l9, p0, p1, p2, p3, p4⟩ := hO2.out))
  clear l0' c0' c1' c2' c3' c4' l9 p0 p1 p2 p3 p4
  have hS : Hid (PutSt (w.alloc (.cells #[.int .i64 5, .string t1, .string t2, .int .i64 z, .string t3] 24)) (w2.alloc (.cells #[.int .u8 5] 5)) (some ⟨w2.heap.size, 0, none⟩) 1 1 [UInt8.ofNat 5]) := by
    have hz2 := hb2.out.size
    exact ⟨rfl, ⟨rfl, .inr ⟨w2.heap.size, 1, #[.int .u8 5], rfl, hz2, heap_alloc_new w2 _, Nat.le_refl _, by simp [maxLen], rfl, rfl⟩⟩, hb2.out.alloc hz2 _⟩
  obtain ⟨wp, hwp⟩ : ∃ x, x = w2.alloc (.cells #[.int .u8 5] 5) := ⟨_, rfl⟩
  rw [← hwp] at hS ⊢
  obtain ⟨A9, hA9⟩ : ∃ x, x = (some ⟨w2.heap.size, 0, none⟩ : Option Addr) := ⟨_, rfl⟩
  rw [← hA9] at hS ⊢
  obtain ⟨q9, hq9⟩ : ∃ x : Nat, x = 1 := ⟨_, rfl⟩
  clear hwp hA9 b1 b2 hO1 hO2 hb2 hq9 q9
  obtain ⟨l0, c0, c1, c2, c3, c4⟩ := hO0.out.up hS.out.2.2
  obtain ⟨X0, hX0⟩ : ∃ X, X = [UInt8.ofNat 5] := ⟨_, rfl⟩
  have hX0l : X0.length = 1 := by rw [hX0]; rfl
  rw [← hX0] at hS
  have HX0 := Lib.hid hX0
  clear hX0
  have HL0 := Lib.hid hX0l
  clear hX0l
  go_wp2_with (first
    | (at_builtin; refine append_str rfl (.tmp 88) (.tmp 90) rfl rfl h9.out (by rw [← H3.out]; rfl) (by have h0 := HL3.out; have h2 := LA.out; omega) ?_; intro A10 q10 e10 w10 h10)
    | (at_builtin; refine append_one rfl (.tmp 84) (.tmp 86) rfl 1 rfl h6.out rfl rfl (by have h0 := HL2.out; omega) ?_; intro A9' q9 e9 w9 h9 f9; have HL3 : Hid ((((X0 ++ textL nm) ++ textL tx) ++ [1]).length ≤ 180) := (by show _ ≤ _; rw [List.length_append]; have h0 := HL2.out; simp only [List.length_singleton]; omega); clear l0 c0 c1 c2 c3 c4; obtain ⟨l0, c0, c1, c2, c3, c4⟩ := hO0.out.up h9.out.2.2)
    | (at_builtin; refine append_more rfl (.tmp 54) (.tmp 55) rfl rfl hS2.out rfl (own_rb ho2.out) E2.out (by have h0 := HL1.out; have h8 := textL_le tx LT.out; omega) ?_; intro A6 q6 e6 w6 h6; have HL2 : Hid (((X0 ++ textL nm) ++ textL tx).length ≤ 120) := (by show _ ≤ _; rw [List.length_append]; have h0 := HL1.out; have h8 := textL_le tx LT.out; omega); clear l0 c0 c1 c2 c3 c4; obtain ⟨l0, c0, c1, c2, c3, c4⟩ := hO0.out.up h6.out.2.2)
    | (go_at_call 50; (with_reducible refine hT2.out.mono ?_); rintro e x2 ⟨B2, d2', rfl, ho2, hv2⟩; have hS2 := Lib.hid (h5.out.up (hb2.out.trans (hv2.out.mono hb2.out.size))))
    | (refine wpList_bytes_letter rfl (.tmp 49) rfl (some 50) rfl tx n2 G2.out (by have := LT.out; omega) (by rw [← H2.out]; rfl) ?_; intro g2 c2' v2 hg2 hc2 hm2' hr2 hb2; have hT2 := Lib.hid (HT2.out v2 (some ⟨g2, 0, none⟩) c2' hr2.out))
    | (at_builtin; refine append_more rfl (.tmp 43) (.tmp 44) rfl rfl hS1.out rfl (own_rb ho1.out) E1.out (by have h0 := HL0.out; have h8 := textL_le nm LN.out; omega) ?_; intro A5 q5 e5 w5 h5; have HL1 : Hid ((X0 ++ textL nm).length ≤ 60) := (by show _ ≤ _; rw [List.length_append]; have h0 := HL0.out; have h8 := textL_le nm LN.out; omega); clear l0 c0 c1 c2 c3 c4; obtain ⟨l0, c0, c1, c2, c3, c4⟩ := hO0.out.up h5.out.2.2)
    | (go_at_call 50; (with_reducible refine hT1.out.mono ?_); rintro e x1 ⟨B1, d1', rfl, ho1, hv1⟩; have hS1 := Lib.hid (hS.out.up (hb1.out.trans (hv1.out.mono hb1.out.size))))
    | (refine wpList_bytes_letter rfl (.tmp 38) rfl (some 39) rfl nm n1 G1.out (by have := LN.out; omega) (by rw [← H1.out]; rfl) ?_; intro g1 c1' v1 hg1 hc1 hm1' hr1 hb1; have hT1 := Lib.hid (HT1.out v1 (some ⟨g1, 0, none⟩) c1' hr1.out)))
  go_ret2
  have h := h10.out
  rw [HX0.out] at h
  rw [HXX.out]
  exact put_gives rfl h
theorem rput_6 (z : Int) (nm tx a : List UInt8) (w : World) (ln : nm.length ≤ 48) (lt : tx.length ≤ 48) (la : a.length ≤ 48) (hz : -2147483647 ≤ z ∧ z ≤ 2147483647)
    (HC : Hid (∀ W, Calls Tryd.prog 44 #[.agg #[.int .i64 6, .string (text nm), .string (text tx), .int .i64 z, .string (text a)]] W fun e w' => e = .returned (.bool true) ∧ Below W.heap.size W w')) :
    Calls Tryd.prog 21 #[.agg #[.int .i64 6, .string (text nm), .string (text tx), .int .i64 z, .string (text a)]] w (GivesBytes (([UInt8.ofNat 6] ++ textL nm) ++ a) w) := by
  obtain ⟨XX, hXX⟩ : ∃ X, X = (([UInt8.ofNat 6] ++ textL nm) ++ a) := ⟨_, rfl⟩
  have HXX := Lib.hid hXX
  rw [← hXX]
  clear hXX
  obtain ⟨t1, h1⟩ : ∃ t, t = text nm := ⟨_, rfl⟩
  obtain ⟨t2, h2⟩ : ∃ t, t = text tx := ⟨_, rfl⟩
  obtain ⟨t3, h3⟩ : ∃ t, t = text a := ⟨_, rfl⟩
  have H1 := Lib.hid h1
  have H2 := Lib.hid h2
  have H3 := Lib.hid h3
  have LN := Lib.hid ln
  have LT := Lib.hid lt
  have LA := Lib.hid la
  have HH : Hid (∀ W, Calls Tryd.prog 49 #[.int .i64 6] W fun e w' => e = .returned (.tuple #[.bool true, .bool false, .bool false, .bool true, .bool true]) ∧ Below W.heap.size W w') := fun W => refHas_any 6 W
  obtain ⟨n1, g1⟩ : ∃ n, n = nm.length := ⟨_, rfl⟩
  obtain ⟨m1, e1⟩ : ∃ n, n = (textL nm).length := ⟨_, rfl⟩
  have hm1 : m1 ≤ 60 := by rw [e1]; unfold textL; rw [List.length_append]; have := putL_len5 nm.length (by omega); omega
  have HT1 : Hid (∀ W A c, RB W W.heap.size A nm → Calls Tryd.prog 50 #[.slice A n1 c] W fun e w' => ∃ A4 c4, e = .returned (.tuple #[.slice A4 m1 c4, .int .i64 0]) ∧ Hid (Own w' W.heap.size A4 (textL nm) c4) ∧ Hid (Below W.heap.size W w')) := fun W A c hr => by
    rw [g1, e1]
    refine (refText_yes nm A c 0 W hr (by omega)).mono fun e w' hh => ?_
    obtain ⟨A4, c4, q1, q2, q3⟩ := hh
    exact ⟨A4, c4, q1, q2, q3⟩
  have G1 := Lib.hid g1
  have E1 := Lib.hid e1
  clear g1 e1
  rw [← h1, ← h2, ← h3] at HC ⊢
  clear h1 h2 h3 ln lt la
  clear hz
  have hO0 := Lib.hid (OpAt.new w 6 t1 t2 z t3)
  have hb0 : Below w.heap.size w (w.alloc (.cells #[.int .i64 6, .string t1, .string t2, .int .i64 z, .string t3] 24)) := (Below.refl _ _).alloc (Nat.le_refl _) _
  have a23 := fun w' => Tryd.opAgg w'
  have s23 := fun w' => Tryd.opSize w'
  go_enter Tryd.func21, Tryd.ntmps21
  go_upto_region 5 with (first
    | (go_at_call 44; (with_reducible refine (HC.out _).mono ?_); rintro e w1 ⟨rfl, b1⟩; have hO1 := Lib.hid (hO0.out.up b1); obtain ⟨l0', c0', c1', c2', c3', c4'⟩ := hO1.out)
    | (go_at_call 49; (with_reducible refine (HH.out _).mono ?_); rintro e w2 ⟨rfl, b2⟩; have hO2 := Lib.hid (hO1.out.up b2); have hb2 := Lib.hid (b1.trans (b2.mono b1.size)); obtain ⟨l9, p0, p1, p2, p3, p4⟩ := hO2.out))
  clear l0' c0' c1' c2' c3' c4' l9 p0 p1 p2 p3 p4
  have hS : Hid (PutSt (w.alloc (.cells #[.int .i64 6, .string t1, .string t2, .int .i64 z, .string t3] 24)) (w2.alloc (.cells #[.int .u8 6] 5)) (some ⟨w2.heap.size, 0, none⟩) 1 1 [UInt8.ofNat 6]) := by
    have hz2 := hb2.out.size
    exact ⟨rfl, ⟨rfl, .inr ⟨w2.heap.size, 1, #[.int .u8 6], rfl, hz2, heap_alloc_new w2 _, Nat.le_refl _, by simp [maxLen], rfl, rfl⟩⟩, hb2.out.alloc hz2 _⟩
  obtain ⟨wp, hwp⟩ : ∃ x, x = w2.alloc (.cells #[.int .u8 6] 5) := ⟨_, rfl⟩
  rw [← hwp] at hS ⊢
  obtain ⟨A9, hA9⟩ : ∃ x, x = (some ⟨w2.heap.size, 0, none⟩ : Option Addr) := ⟨_, rfl⟩
  rw [← hA9] at hS ⊢
  obtain ⟨q9, hq9⟩ : ∃ x : Nat, x = 1 := ⟨_, rfl⟩
  clear hwp hA9 b1 b2 hO1 hO2 hb2 hq9 q9
  obtain ⟨l0, c0, c1, c2, c3, c4⟩ := hO0.out.up hS.out.2.2
  obtain ⟨X0, hX0⟩ : ∃ X, X = [UInt8.ofNat 6] := ⟨_, rfl⟩
  have hX0l : X0.length = 1 := by rw [hX0]; rfl
  rw [← hX0] at hS
  have HX0 := Lib.hid hX0
  clear hX0
  have HL0 := Lib.hid hX0l
  clear hX0l
  go_wp2_with (first
    | (at_builtin; refine append_str rfl (.tmp 88) (.tmp 90) rfl rfl h5.out (by rw [← H3.out]; rfl) (by have h0 := HL1.out; have h2 := LA.out; omega) ?_; intro A10 q10 e10 w10 h10)
    | (at_builtin; refine append_more rfl (.tmp 43) (.tmp 44) rfl rfl hS1.out rfl (own_rb ho1.out) E1.out (by have h0 := HL0.out; have h8 := textL_le nm LN.out; omega) ?_; intro A5 q5 e5 w5 h5; have HL1 : Hid ((X0 ++ textL nm).length ≤ 60) := (by show _ ≤ _; rw [List.length_append]; have h0 := HL0.out; have h8 := textL_le nm LN.out; omega); clear l0 c0 c1 c2 c3 c4; obtain ⟨l0, c0, c1, c2, c3, c4⟩ := hO0.out.up h5.out.2.2)
    | (go_at_call 50; (with_reducible refine hT1.out.mono ?_); rintro e x1 ⟨B1, d1', rfl, ho1, hv1⟩; have hS1 := Lib.hid (hS.out.up (hb1.out.trans (hv1.out.mono hb1.out.size))))
    | (refine wpList_bytes_letter rfl (.tmp 38) rfl (some 39) rfl nm n1 G1.out (by have := LN.out; omega) (by rw [← H1.out]; rfl) ?_; intro g1 c1' v1 hg1 hc1 hm1' hr1 hb1; have hT1 := Lib.hid (HT1.out v1 (some ⟨g1, 0, none⟩) c1' hr1.out)))
  go_ret2
  have h := h10.out
  rw [HX0.out] at h
  rw [HXX.out]
  exact put_gives rfl h
theorem rput_7 (z : Int) (nm tx a : List UInt8) (w : World) (ln : nm.length ≤ 48) (lt : tx.length ≤ 48) (la : a.length ≤ 48) (hz : -2147483647 ≤ z ∧ z ≤ 2147483647)
    (HC : Hid (∀ W, Calls Tryd.prog 44 #[.agg #[.int .i64 7, .string (text nm), .string (text tx), .int .i64 z, .string (text a)]] W fun e w' => e = .returned (.bool true) ∧ Below W.heap.size W w')) :
    Calls Tryd.prog 21 #[.agg #[.int .i64 7, .string (text nm), .string (text tx), .int .i64 z, .string (text a)]] w (GivesBytes ([UInt8.ofNat 7] ++ a) w) := by
  obtain ⟨XX, hXX⟩ : ∃ X, X = ([UInt8.ofNat 7] ++ a) := ⟨_, rfl⟩
  have HXX := Lib.hid hXX
  rw [← hXX]
  clear hXX
  obtain ⟨t1, h1⟩ : ∃ t, t = text nm := ⟨_, rfl⟩
  obtain ⟨t2, h2⟩ : ∃ t, t = text tx := ⟨_, rfl⟩
  obtain ⟨t3, h3⟩ : ∃ t, t = text a := ⟨_, rfl⟩
  have H1 := Lib.hid h1
  have H2 := Lib.hid h2
  have H3 := Lib.hid h3
  have LN := Lib.hid ln
  have LT := Lib.hid lt
  have LA := Lib.hid la
  have HH : Hid (∀ W, Calls Tryd.prog 49 #[.int .i64 7] W fun e w' => e = .returned (.tuple #[.bool false, .bool false, .bool false, .bool false, .bool true]) ∧ Below W.heap.size W w') := fun W => refHas_any 7 W
  rw [← h1, ← h2, ← h3] at HC ⊢
  clear h1 h2 h3 ln lt la
  clear hz
  have hO0 := Lib.hid (OpAt.new w 7 t1 t2 z t3)
  have hb0 : Below w.heap.size w (w.alloc (.cells #[.int .i64 7, .string t1, .string t2, .int .i64 z, .string t3] 24)) := (Below.refl _ _).alloc (Nat.le_refl _) _
  have a23 := fun w' => Tryd.opAgg w'
  have s23 := fun w' => Tryd.opSize w'
  go_enter Tryd.func21, Tryd.ntmps21
  go_upto_region 5 with (first
    | (go_at_call 44; (with_reducible refine (HC.out _).mono ?_); rintro e w1 ⟨rfl, b1⟩; have hO1 := Lib.hid (hO0.out.up b1); obtain ⟨l0', c0', c1', c2', c3', c4'⟩ := hO1.out)
    | (go_at_call 49; (with_reducible refine (HH.out _).mono ?_); rintro e w2 ⟨rfl, b2⟩; have hO2 := Lib.hid (hO1.out.up b2); have hb2 := Lib.hid (b1.trans (b2.mono b1.size)); obtain ⟨l9, p0, p1, p2, p3, p4⟩ := hO2.out))
  clear l0' c0' c1' c2' c3' c4' l9 p0 p1 p2 p3 p4
  have hS : Hid (PutSt (w.alloc (.cells #[.int .i64 7, .string t1, .string t2, .int .i64 z, .string t3] 24)) (w2.alloc (.cells #[.int .u8 7] 5)) (some ⟨w2.heap.size, 0, none⟩) 1 1 [UInt8.ofNat 7]) := by
    have hz2 := hb2.out.size
    exact ⟨rfl, ⟨rfl, .inr ⟨w2.heap.size, 1, #[.int .u8 7], rfl, hz2, heap_alloc_new w2 _, Nat.le_refl _, by simp [maxLen], rfl, rfl⟩⟩, hb2.out.alloc hz2 _⟩
  obtain ⟨wp, hwp⟩ : ∃ x, x = w2.alloc (.cells #[.int .u8 7] 5) := ⟨_, rfl⟩
  rw [← hwp] at hS ⊢
  obtain ⟨A9, hA9⟩ : ∃ x, x = (some ⟨w2.heap.size, 0, none⟩ : Option Addr) := ⟨_, rfl⟩
  rw [← hA9] at hS ⊢
  obtain ⟨q9, hq9⟩ : ∃ x : Nat, x = 1 := ⟨_, rfl⟩
  clear hwp hA9 b1 b2 hO1 hO2 hb2 hq9 q9
  obtain ⟨l0, c0, c1, c2, c3, c4⟩ := hO0.out.up hS.out.2.2
  obtain ⟨X0, hX0⟩ : ∃ X, X = [UInt8.ofNat 7] := ⟨_, rfl⟩
  have hX0l : X0.length = 1 := by rw [hX0]; rfl
  rw [← hX0] at hS
  have HX0 := Lib.hid hX0
  clear hX0
  have HL0 := Lib.hid hX0l
  clear hX0l
  go_wp2_with (first
    | (at_builtin; refine append_str rfl (.tmp 88) (.tmp 90) rfl rfl hS.out (by rw [← H3.out]; rfl) (by have h0 := HL0.out; have h2 := LA.out; omega) ?_; intro A10 q10 e10 w10 h10))
  go_ret2
  have h := h10.out
  rw [HX0.out] at h
  rw [HXX.out]
  exact put_gives rfl h
end
end Go.Proofs.YtinphkflfdpaeaaDoor
