/- Lemmas under the proofs of this place: OpPApp, CurAtB, Ref. No statement is proved here. -/
import Derived.Test.YtinphkflfdpaeaaDoorBu20
import Derived.Test.YtinphkflfdpaeaaDoorBu09
import Derived.Test.YtinphkflfdpaeaaDoorBu14
import Derived.Test.YtinphkflfdpaeaaDoorBu10
import Derived.Test.YtinphkflfdpaeaaDoorBu21
import Derived.Test.YtinphkflfdpaeaaDoorBu13
import Derived.Test.YtinphkflfdpaeaaDoorBu18
import Derived.Test.YtinphkflfdpaeaaDoorBu06
set_option linter.unusedSimpArgs false
set_option linter.unusedVariables false
set_option maxRecDepth 100000
set_option maxHeartbeats 16000000
namespace Go.Proofs.YtinphkflfdpaeaaDoor
section
open Go.RowKit
theorem pappText_any (w0 w : World) (A : Option Addr) (q c : Nat) (P tx : List UInt8) (hS : PutSt w0 w A q c P) (lt : tx.length ≤ 1000) (hP : P.length ≤ 1000) :
    Calls Tryd.prog 46 #[.slice A q c, .string (text tx)] w (GivesApp w0 (P ++ textL tx)) := by
  obtain ⟨t2, h2⟩ : ∃ t, t = text tx := ⟨_, rfl⟩
  have H2 := Lib.hid h2
  obtain ⟨n2, g3⟩ : ∃ n, n = tx.length := ⟨_, rfl⟩
  obtain ⟨m2, g4⟩ : ∃ n, n = (textL tx).length := ⟨_, rfl⟩
  have hm2 : m2 ≤ 1005 := by rw [g4]; unfold textL; rw [List.length_append]; have := putL_len5 tx.length (by omega); omega
  have HT2 : Hid (∀ W A c, RB W W.heap.size A tx → Calls Tryd.prog 72 #[.slice A n2 c] W fun e w' => ∃ A4 c4, e = .returned (.tuple #[.slice A4 m2 c4, .int .i64 0]) ∧ Hid (Own w' W.heap.size A4 (textL tx) c4) ∧ Hid (Below W.heap.size W w')) := fun W A c hr => by
    rw [g3, g4]
    refine (text_yes tx A c 0 W hr (by omega)).mono fun e w' hh => ?_
    obtain ⟨A4, c4, q1, q2, q3⟩ := hh
    exact ⟨A4, c4, q1, q2, q3⟩
  have G3 := Lib.hid g3
  have G4 := Lib.hid g4
  have LT := Lib.hid lt
  have LP := Lib.hid hP
  have HS := Lib.hid hS
  rw [← h2]
  clear h2 g3 g4 lt hP hS
  go_enter Tryd.func46, Tryd.ntmps46
  go_wp2_with (first
    | (refine wpList_bytes_letter rfl (.tmp 8) rfl (some 9) rfl tx n2 G3.out (by have := LT.out; omega) (by rw [← H2.out]; rfl) ?_; intro g3 c3' w3 hg3 hc3 hm3 hr3 hb3; have hT := Lib.hid (HT2.out w3 (some ⟨g3, 0, none⟩) c3' hr3.out))
    | (go_at_call 72; (with_reducible refine hT.out.mono ?_); rintro e w4 ⟨A4, c4', rfl, ho4, hb4⟩; have hS4 := Lib.hid (HS.out.up (hb3.out.trans (hb4.out.mono hb3.out.size))))
    | (at_builtin; refine append_more rfl (.tmp 13) (.tmp 14) rfl rfl hS4.out rfl (own_rb ho4.out) G4.out (by have h1 := LP.out; have h2 := G4.out; omega) ?_; intro A5 q5 c5 w5 h5))
  go_ret
  exact ⟨A5, q5, c5, rfl, h5.out⟩
theorem pappNumber_any (w0 w : World) (A : Option Addr) (q c : Nat) (P : List UInt8) (z : Int) (hS : PutSt w0 w A q c P) (hz : -2147483647 ≤ z ∧ z ≤ 2147483647) (hP : P.length ≤ 1000) :
    Calls Tryd.prog 47 #[.slice A q c, .int .i64 z] w (GivesApp w0 (P ++ signL z)) := by
  obtain ⟨n, hn⟩ : ∃ n, n = z.natAbs := ⟨_, rfl⟩
  obtain ⟨F, hF⟩ : ∃ F, F = fixL 4 n := ⟨_, rfl⟩
  have hFl : F.length = 4 := by rw [hF]; exact fixL_length 4 n
  have HX : Hid (Calls Tryd.prog 73 #[.int .i64 (n : Int), .int .i64 4] w fun e w' => ∃ A4 c4, e = .returned (.tuple #[.slice A4 4 c4, .int .i64 0]) ∧ Hid (Own w' w.heap.size A4 F c4) ∧ Hid (Below w.heap.size w w')) := by
    show Calls _ _ _ _ _
    rw [hF]
    refine (fix_yes n 4 w (by omega) (by omega) (by omega) (by omega)).mono fun e w' hh => ?_
    obtain ⟨A4, c4, q1, q2, q3⟩ := hh
    rw [fixL_length] at q1
    exact ⟨A4, c4, q1, q2, q3⟩
  have HG : Hid (signL z = [if z < 0 then 1 else 0] ++ F) := by show _ = _; rw [hF, hn]; rfl
  have HFl := Lib.hid hFl
  have HS := Lib.hid hS
  have LP := Lib.hid hP
  by_cases c0 : z < 0
  · have d0 : decide (z < 0) = true := decide_eq_true c0
    have y0 : IntKind.i64.wrap (-z) = (n : Int) := by rw [IntWalk.i64_in _ (by omega)]; omega
    have HG2 : Hid (signL z = [1] ++ F) := by show _ = _; rw [HG.out, if_pos c0]
    clear hn hF hFl HG hS hP c0 hz
    go_enter Tryd.func47, Tryd.ntmps47
    go_wp2_with (first
      | (go_at_call 73; (with_reducible refine HX.out.mono ?_); rintro e w4 ⟨A4, c4', rfl, ho4, hb4⟩; have hS4 := Lib.hid (HS.out.up hb4.out))
      | (at_builtin; refine append_one rfl (.tmp 17) (.tmp 19) rfl 1 rfl hS4.out rfl rfl (by have h1 := LP.out; omega) ?_; intro A5 q5 c5 w5 h5 f5; have r5 := Lib.hid (f5.out _ _ (own_rb ho4.out) (fun ad e e2 => by have h1 := own_newO ho4.out ad e; have h2 := (HS.out.2.1.lt _ e2).2; omega)))
      | (at_builtin; refine append_more rfl (.tmp 20) (.tmp 21) rfl rfl h5.out rfl r5.out HFl.out.symm (by have h1 := LP.out; have h2 := HFl.out; rw [List.length_append]; simp only [List.length_singleton]; omega) ?_; intro A6 q6 c6 w6 h6))
    go_ret
    exact ⟨A6, q6, c6, rfl, by rw [HG2.out, ← List.append_assoc]; exact h6.out⟩
  · have d0 : decide (z < 0) = false := decide_eq_false c0
    have hzn : z = (n : Int) := by omega
    have HG2 : Hid (signL z = [0] ++ F) := by show _ = _; rw [HG.out, if_neg c0]
    rw [hzn] at d0 HG2 ⊢
    clear hn hF hFl HG hS hP c0 hz hzn
    go_enter Tryd.func47, Tryd.ntmps47
    go_wp2_with (first
      | (go_at_call 73; (with_reducible refine HX.out.mono ?_); rintro e w4 ⟨A4, c4', rfl, ho4, hb4⟩; have hS4 := Lib.hid (HS.out.up hb4.out))
      | (at_builtin; refine append_one rfl (.tmp 17) (.tmp 19) rfl 0 rfl hS4.out rfl rfl (by have h1 := LP.out; omega) ?_; intro A5 q5 c5 w5 h5 f5; have r5 := Lib.hid (f5.out _ _ (own_rb ho4.out) (fun ad e e2 => by have h1 := own_newO ho4.out ad e; have h2 := (HS.out.2.1.lt _ e2).2; omega)))
      | (at_builtin; refine append_more rfl (.tmp 20) (.tmp 21) rfl rfl h5.out rfl r5.out HFl.out.symm (by have h1 := LP.out; have h2 := HFl.out; rw [List.length_append]; simp only [List.length_singleton]; omega) ?_; intro A6 q6 c6 w6 h6))
    go_ret
    exact ⟨A6, q6, c6, rfl, by rw [HG2.out, ← List.append_assoc]; exact h6.out⟩
theorem pappAt_5 (w0 w : World) (A : Option Addr) (q c : Nat) (P a : List UInt8) (hs : Int) (hS : PutSt w0 w A q c P) (h5 : bits .and .i64 hs 32 = 0) (la : a.length ≤ 1000) (hP : P.length ≤ 1000) :
    Calls Tryd.prog 48 #[.slice A q c, .string (text a), .int .i64 hs] w (GivesApp w0 (P ++ atL 5 a)) := by
  obtain ⟨t, ht⟩ : ∃ t, t = text a := ⟨_, rfl⟩
  have htl : t.toList = a := by rw [ht]; exact text_toList a
  have HT := Lib.hid ht
  have HS := Lib.hid hS
  have LP := Lib.hid hP
  have LA := Lib.hid la
  rw [← ht]
  clear ht hS hP la
  cases hE : a.isEmpty with
  | true =>
    have htl2 : t.toList = [] := by rw [htl]; simpa using hE
    have HA : Hid (atL 5 a = [0]) := by
      show _ = _
      have : a = [] := by simpa using hE
      rw [this]
      rfl
    clear htl hE
    go_enter Tryd.func48, Tryd.ntmps48
    go_wp2_with (first
      | (at_builtin; refine append_one rfl (.tmp 12) (.tmp 13) rfl 0 rfl HS.out rfl rfl (by have h1 := LP.out; omega) ?_; intro A5 q5 c5 w5 h5 f5))
    go_ret
    exact ⟨A5, q5, c5, rfl, by rw [HA.out]; exact h5.out⟩
  | false =>
    have hE9 := hE
    have HA : Hid (atL 5 a = [1] ++ a) := by
      show _ = _
      have : a ≠ [] := by simpa using hE
      unfold atL
      rw [if_pos rfl, if_neg this]
      rfl
    clear hE
    go_enter Tryd.func48, Tryd.ntmps48
    go_wp2_with (first
      | (at_builtin; refine append_one rfl (.tmp 15) (.tmp 16) rfl 1 rfl HS.out rfl rfl (by have h1 := LP.out; omega) ?_; intro A5 q5 c5 w5 h5 f5)
      | (at_builtin; refine append_str rfl (.tmp 18) (.tmp 19) rfl rfl h5.out (by rw [← HT.out]; rfl) (by have h1 := LP.out; have h2 := LA.out; rw [List.length_append]; simp only [List.length_singleton]; omega) ?_; intro A6 q6 c6 w6 h6))
    go_ret
    exact ⟨A6, q6, c6, rfl, by rw [HA.out, ← List.append_assoc]; exact h6.out⟩
theorem pappAt_6 (w0 w : World) (A : Option Addr) (q c : Nat) (P a : List UInt8) (hs m : Int) (hS : PutSt w0 w A q c P) (h5 : bits .and .i64 hs 32 = m) (h0 : m ≠ 0) (la : a.length ≤ 1000) (hP : P.length ≤ 1000) :
    Calls Tryd.prog 48 #[.slice A q c, .string (text a), .int .i64 hs] w (GivesApp w0 (P ++ a)) := by
  have d0 : (m == 0) = false := by simpa using h0
  have HS := Lib.hid hS
  have LP := Lib.hid hP
  have LA := Lib.hid la
  obtain ⟨t, ht⟩ : ∃ t, t = text a := ⟨_, rfl⟩
  have HT := Lib.hid ht
  rw [← ht]
  clear ht hS hP la
  go_enter Tryd.func48, Tryd.ntmps48
  go_wp2_with (first
    | (at_builtin; refine append_str rfl (.tmp 18) (.tmp 19) rfl rfl HS.out (by rw [← HT.out]; rfl) (by have h1 := LP.out; have h2 := LA.out; omega) ?_; intro A6 q6 c6 w6 h6))
  go_ret
  exact ⟨A6, q6, c6, rfl, h6.out⟩
end
section
open Go.RowKit
theorem byte_at (B g : Nat) (st : St) (w : World) (h : CurB B w g st) (hB : B ≤ w.heap.size) :
    Calls Tryd.prog 23 #[.pointer (some ⟨g, 0, none⟩)] w fun e w' => e = .returned (.int .i64 ((stepByte st).2 : Int)) ∧ CurB B w' g (stepByte st).1 ∧ Only w w' g := by
  have ht := take_at B g 1 st w h hB
  obtain ⟨r, hr⟩ : ∃ r, r = stepTake 1 st := ⟨_, rfl⟩
  rw [← hr] at ht
  have HS : Hid (stepByte st = (r.1, headN r.2)) := by show _ = _; rw [hr]; rfl
  clear hr h
  obtain ⟨st', l⟩ := r
  rcases l with _ | ⟨b, l⟩
  · go_enter Tryd.func23, Tryd.ntmps23
    go_wp2_with (go_at_call 26; refine ht.mono ?_; rintro e w' ⟨A, c, rfl, hrb, hnw, hcur, honly⟩)
    go_ret
    rw [HS.out]
    exact ⟨rfl, hcur, honly⟩
  · have hb256 := byte_lt b
    have hne : ((((b :: l).length : Nat) : Int) == 0) = false := by simp; omega
    go_enter Tryd.func23, Tryd.ntmps23
    go_wp2_with (go_at_call 26; refine ht.mono ?_; rintro e w' ⟨A, c, rfl, hrb, hnw, hcur, honly⟩; obtain ⟨bb, off, rfl, _, hcc⟩ := hrb.at_ (by simp); have hc0 := hcc 0 (by simp); rw [Nat.add_zero] at hc0; simp only [List.getElem_cons_zero] at hc0; clear hcc)
    go_ret
    rw [HS.out]
    exact ⟨rfl, hcur, honly⟩
theorem ctext_at (B g : Nat) (st : St) (w : World) (h : CurB B w g st) (hB : B ≤ w.heap.size) :
    Calls Tryd.prog 75 #[.pointer (some ⟨g, 0, none⟩)] w (GivesAt B g (stepText st) w) := by
  have hnum := num_at B g st w h hB
  obtain ⟨r, hr⟩ : ∃ r, r = stepNum st := ⟨_, rfl⟩
  rw [← hr] at hnum
  have HS : Hid (stepText st = if 262144 < r.2 then (none, []) else stepTake r.2 r.1) := by show _ = _; rw [hr]; rfl
  clear hr h
  obtain ⟨st', n⟩ := r
  by_cases hn : 262144 < n
  · go_enter Tryd.func75, Tryd.ntmps75
    go_wp2_with (first
      | (go_at_call 87; refine hnum.mono ?_; rintro e w1 ⟨rfl, hcur, honly⟩; have z1 := Nat.le_trans hB honly.size)
      | (go_at_call 54; refine (fail_any g _ _ (hcur.cur z1)).mono ?_; rintro e w2 ⟨rfl, hcur2, honly2, hsz⟩; have z2 := Nat.le_trans z1 honly2.size; have hcur2 : CurB B w2 g none := hcur2)
      | (go_at_call 26; refine (take_at B g _ _ _ hcur2 z2).mono ?_; rintro e w3 ⟨A, c, rfl, hrb, hnw, hcur3, honly3⟩))
    go_ret
    rw [HS.out, if_pos hn]
    exact ⟨A, c, rfl, hrb, fun ad e => Nat.le_trans (Nat.le_trans honly.size honly2.size) (hnw ad e), hcur3, only_trans honly (only_trans honly2 honly3)⟩
  · go_enter Tryd.func75, Tryd.ntmps75
    go_wp2_with (first
      | (go_at_call 87; refine hnum.mono ?_; rintro e w1 ⟨rfl, hcur, honly⟩; have z1 := Nat.le_trans hB honly.size)
      | (go_at_call 26; refine (take_at B g _ _ _ hcur z1).mono ?_; rintro e w3 ⟨A, c, rfl, hrb, hnw, hcur3, honly3⟩))
    go_ret
    rw [HS.out, if_neg hn]
    exact ⟨A, c, rfl, hrb, fun ad e => Nat.le_trans honly.size (hnw ad e), hcur3, only_trans honly honly3⟩
theorem CurB.below {B g : Nat} {w w' : World} {st : St} (h : CurB B w g st) (hb : Below w.heap.size w w') (hB : B ≤ w.heap.size) : CurB B w' g st :=
  h.keep (hb.block g h.lt) fun p hp => hb.cell (Nat.lt_of_lt_of_le hp hB)
end
section
open Go.RowKit
theorem refLeft_any (A : Option Addr) (M : List UInt8) (c : Nat) (v : Value) (st : St) (w : World) (h : RefV A M c v st) (hl : M.length ≤ 1048576) :
    Calls Tryd.prog 38 #[v] w fun e w' => e = .returned (.int .i64 (leftN st : Int)) ∧ Below w.heap.size w w' := by
  rcases st with _ | L
  · obtain rfl : v = _ := h
    go_enter Tryd.func38, Tryd.ntmps38
    go_wp2
    go_ret
    exact ⟨rfl, (Below.refl _ _).alloc (Nat.le_refl _) _⟩
  · obtain ⟨k, rfl, hk, hL⟩ := h
    obtain ⟨d, hd⟩ : ∃ d : Nat, d = M.length - k := ⟨_, rfl⟩
    have HL : Hid (leftN (some L) = d) := by show _ = _; rw [hL, hd]; simp [leftN]
    have he : (M.length : Int) - (k : Int) = (d : Int) := by omega
    clear hL hd
    go_enter Tryd.func38, Tryd.ntmps38
    go_wp2
    go_ret
    rw [HL.out]
    exact ⟨rfl, (Below.refl _ _).alloc (Nat.le_refl _) _⟩
end
end Go.Proofs.YtinphkflfdpaeaaDoor
